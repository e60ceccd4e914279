/-
  DERIVED. CBack, CBack2, CLawB, BackRow, as one text.
-/
import Derived.Test.YtibjneoiombbfaaDoorCDec
import Derived.Test.YtibjneoiombbfaaDoorSBurst
import Derived.Test.YtibjneoiombbfaaDoorCGoes2
import Derived.Test.YtibjneoiombbfaaDoorCLaw1
import Derived.Test.YtibjneoiombbfaaDoorSTable
import Derived.Test.YtibjneoiombbfaaDoorCOpen
import Derived.Lib.SmallJoins
import Derived.ChangeMaps5
set_option linter.unusedVariables false
set_option linter.unusedSimpArgs false
namespace Go.Proofs.YtibjneoiombbfaaDoor
open Go.RowKit Go.Proofs.SealMath
theorem sub_app (b : ByteArray) (x y z : List UInt8) (h : b.data.toList = x ++ y ++ z) : sub b x.length y.length = y := by
  unfold sub; rw [h]; simp
theorem app_place (b : ByteArray) (x y z : List UInt8) (h : b.data.toList = x ++ y ++ z) : x.length + y.length ≤ b.size := by
  have := congrArg List.length h
  rw [nm_size] at this
  simp at this; omega
theorem rd_put (b : ByteArray) (most : Nat) (hm : most ≤ 1152921504606846976) : ∀ (ns : List Nat) (x y : List UInt8), (∀ n ∈ ns, n ≤ most) → b.data.toList = x ++ ns.flatMap pv ++ y → rd b most ns.length x.length = .ok (ns, x.length + (ns.flatMap pv).length)
  | [], x, y, _, _ => rfl
  | n :: ns, x, y, hn, hb => by
    have hb' : b.data.toList = x ++ pv n ++ (ns.flatMap pv ++ y) := by rw [hb]; simp
    have h1 := sub_app b x (pv n) _ hb'
    have h2 := app_place b x (pv n) _ hb'
    have hn0 := hn n (by simp)
    have hv := vA_put b x.length n (by omega) h1 (by omega)
    have hb2 : b.data.toList = (x ++ pv n) ++ ns.flatMap pv ++ y := by rw [hb]; simp
    have ih := rd_put b most hm ns (x ++ pv n) y (fun k hk => hn k (by simp [hk])) hb2
    rw [List.length_append] at ih
    rw [List.length_cons, rd, hv]
    simp only [ne_eq, not_true_eq_false, if_false]
    rw [if_neg (by omega)]
    have e : x.length + (pvL 9 n).length = x.length + (pv n).length := rfl
    rw [e, ih]
    simp [Except.map, Nat.add_assoc]
abbrev Gr (r : Ru) : Prop := (0 ≤ r.num ∧ r.num ≤ 1152921504606846976) ∧ (0 ≤ r.lo ∧ r.lo ≤ 1152921504606846976) ∧ (0 ≤ r.hi ∧ r.hi ≤ 1152921504606846976) ∧ (0 ≤ r.cnt ∧ r.cnt ≤ 1152921504606846976)
theorem ruOf_ruN {r : Ru} (h : Gr r) : ruOf (ruN r) = r := by
  obtain ⟨a, b, c, d⟩ := r
  simp only [Gr] at h
  simp only [ruOf, ruN, List.getD_cons_zero, List.getD_cons_succ]
  congr 1 <;> omega
theorem rdRs_put (b : ByteArray) : ∀ (rs : List Ru) (x y : List UInt8), (∀ r ∈ rs, Gr r) → b.data.toList = x ++ (rs.flatMap ruN).flatMap pv ++ y → rdRs b rs.length x.length = .ok (rs, x.length + ((rs.flatMap ruN).flatMap pv).length)
  | [], x, y, _, _ => rfl
  | r :: rs, x, y, hr, hb => by
    have hb' : b.data.toList = x ++ (ruN r).flatMap pv ++ ((rs.flatMap ruN).flatMap pv ++ y) := by rw [hb]; simp [List.flatMap_append]
    have hg := hr r (by simp)
    have h1 := rd_put b 1152921504606846976 (Nat.le_refl _) (ruN r) x _ (ruN_le hg) hb'
    have hb2 : b.data.toList = (x ++ (ruN r).flatMap pv) ++ (rs.flatMap ruN).flatMap pv ++ y := by rw [hb]; simp [List.flatMap_append]
    have ih := rdRs_put b rs _ y (fun k hk => hr k (by simp [hk])) hb2
    rw [List.length_append] at ih
    rw [show (ruN r).length = 4 from rfl] at h1
    rw [List.length_cons, rdRs, h1]
    simp only
    rw [ih, ruOf_ruN hg]
    simp [Except.map, Nat.add_assoc, List.flatMap_append]
theorem unP_put {m : Mf} (h : Goes m) : unP ⟨(payL m).toArray⟩ = .ok m := by
  have hb : (⟨(payL m).toArray⟩ : ByteArray).data.toList = payL m := rfl
  generalize hB : (⟨(payL m).toArray⟩ : ByteArray) = B at hb
  have hp : payL m = (hdN m).flatMap pv ++ [m.rs.length].flatMap pv ++ (m.rs.flatMap ruN).flatMap pv := by simp [payL]
  rw [hp] at hb
  have e1 := rd_put B 1152921504606846976 (Nat.le_refl _) (hdN m) [] ([m.rs.length].flatMap pv ++ (m.rs.flatMap ruN).flatMap pv) (hdN_le h) (by rw [hb]; simp)
  have e2 := rd_put B 24 (by decide) [m.rs.length] ((hdN m).flatMap pv) ((m.rs.flatMap ruN).flatMap pv) (fun n hn => by simp at hn; rw [hn]; exact h.len) hb
  have e3 := rdRs_put B m.rs ((hdN m).flatMap pv ++ [m.rs.length].flatMap pv) [] h.rs (by rw [hb]; simp)
  rw [show (hdN m).length = 6 from rfl] at e1
  simp only [List.length_nil, Nat.zero_add] at e1
  rw [List.length_append] at e3
  unfold unP
  rw [e1]
  simp only
  rw [show ([m.rs.length] : List Nat).length = 1 from rfl] at e2
  rw [e2]
  simp only [List.getD_cons_zero]
  rw [e3]
  simp only
  rw [if_pos (by rw [← nm_size, hb, List.length_append, List.length_append])]
  have := h.w; have := h.ch; have := h.md; have := h.seq; have := h.nx; have := h.jn
  obtain ⟨a, b, c, d, e, f, rs⟩ := m
  simp only [mfOf, hdN, List.getD_cons_zero, List.getD_cons_succ]
  simp only at *
  congr 1
  congr 1 <;> omega
theorem pay_frame {m : Mf} (h : chE m = 0) : (enT m).data.toList = frL 3 (payL m) := by unfold enT; rw [if_pos h]
theorem dec_enc {m : Mf} (h : chE m = 0) (b : ByteArray) (hb : b = enT m) : dcM b = .ok m := by
  have hG := goes_of h
  have hl := pay_len hG
  have hd : b.data.toList = [] ++ frL 3 (payL m) ++ [] := by rw [hb, pay_frame h]; simp
  have hp := prA_frame b 0 3 (payL m) [] [] (by decide) (by decide) (by omega) hd rfl
  have hz : b.size = (payL m).length + 14 := by rw [← nm_size, hd]; simp [frL_len]
  have hps : psA b 0 = (3, payL m, (payL m).length + 14, 0) := by
    have := hp
    rw [show ((0 : Nat) : Int) = 0 from rfl, prA0] at this
    simpa using this
  unfold dcM dcU
  rw [hps]
  simp only [ne_eq, not_true_eq_false, if_false, hz]
  rw [unP_put hG]
  simp only
  rw [if_pos h]
theorem sub_two (b : ByteArray) (a m n : Nat) (x y : List UInt8) (h1 : sub b a m = x) (h2 : sub b (a + m) n = y) : sub b a (m + n) = x ++ y := by rw [sub_add, h1, h2]
theorem rd_only (b : ByteArray) (most : Nat) : ∀ (n a : Nat) (l : List Nat) (q : Nat), rd b most n a = .ok (l, q) → q = a + (l.flatMap pv).length ∧ sub b a (l.flatMap pv).length = l.flatMap pv
  | 0, a, l, q, h => by simp only [rd] at h; cases h; simp [sub]
  | n + 1, a, l, q, h => by
    simp only [rd] at h
    split at h
    · cases h
    · next he =>
      split at h
      · cases h
      · have hv : vA b a = ((vA b a).1, (vA b a).2.1, 0) := Prod.ext rfl (Prod.ext rfl (Classical.byContradiction he))
        obtain ⟨-, h2, h3, -⟩ := vA_only b a _ _ hv
        cases hr : rd b most n (vA b a).2.1 with
        | error e => rw [hr] at h; cases h
        | ok x =>
          obtain ⟨l', p'⟩ := x
          rw [hr] at h
          simp only [Except.map] at h
          cases h
          obtain ⟨i1, i2⟩ := rd_only b most n _ l' _ hr
          rw [h2] at i1 i2
          have e : (pv (vA b a).1) = pvL 9 (vA b a).1 := rfl
          rw [List.flatMap_cons, List.length_append, e]
          exact ⟨by rw [i1]; omega, sub_two b a _ _ _ _ h3 i2⟩
theorem ruN_ruOf (l : List Nat) (h : l.length = 4) : ruN (ruOf l) = l := by
  match l, h with
  | [a, b, c, d], _ => rfl
theorem rdRs_only (b : ByteArray) : ∀ (n a : Nat) (rs : List Ru) (q : Nat), rdRs b n a = .ok (rs, q) → q = a + ((rs.flatMap ruN).flatMap pv).length ∧ sub b a ((rs.flatMap ruN).flatMap pv).length = (rs.flatMap ruN).flatMap pv
  | 0, a, l, q, h => by simp only [rdRs] at h; cases h; simp [sub]
  | n + 1, a, rs, q, h => by
    simp only [rdRs] at h
    cases hr : rd b 1152921504606846976 4 a with
    | error e => rw [hr] at h; cases h
    | ok x =>
      obtain ⟨l, a'⟩ := x
      rw [hr] at h
      simp only at h
      cases hr2 : rdRs b n a' with
      | error e => rw [hr2] at h; cases h
      | ok y =>
        obtain ⟨rs', q'⟩ := y
        rw [hr2] at h
        simp only [Except.map] at h
        cases h
        obtain ⟨j1, j2⟩ := rd_only b _ _ _ _ _ hr
        obtain ⟨i1, i2⟩ := rdRs_only b n _ rs' _ hr2
        rw [j1] at i1 i2
        rw [List.flatMap_cons, ruN_ruOf l (rd_len hr).1, List.flatMap_append, List.length_append]
        exact ⟨by rw [i1]; omega, sub_two b a _ _ _ _ j2 i2⟩
theorem sub_whole2 (b : ByteArray) : sub b 0 b.size = b.data.toList := by unfold sub; rw [List.drop_zero, List.take_of_length_le (by rw [nm_size]; exact Nat.le_refl _)]
theorem unP_only {p : ByteArray} {m : Mf} (h : unP p = .ok m) : payL m = p.data.toList := by
  unfold unP at h
  cases h1 : rd p 1152921504606846976 6 0 with
  | error e => rw [h1] at h; cases h
  | ok x =>
    obtain ⟨hd, a1⟩ := x
    rw [h1] at h
    simp only at h
    cases h2 : rd p 24 1 a1 with
    | error e => rw [h2] at h; cases h
    | ok y =>
      obtain ⟨c, a2⟩ := y
      rw [h2] at h
      simp only at h
      cases h3 : rdRs p (c.getD 0 0) a2 with
      | error e => rw [h3] at h; cases h
      | ok z =>
        obtain ⟨rs, a3⟩ := z
        rw [h3] at h
        simp only at h
        split at h
        · next hz =>
          injection h with h
          subst h
          obtain ⟨i1, i2⟩ := rd_only p _ _ _ _ _ h1
          obtain ⟨j1, j2⟩ := rd_only p _ _ _ _ _ h2
          obtain ⟨k1, k2⟩ := rdRs_only p _ _ _ _ h3
          rw [Nat.zero_add] at i1
          rw [i1] at j1 j2
          rw [j1] at k1 k2
          have s1 := sub_two p 0 _ _ _ _ i2 (by simp only [Nat.zero_add]; exact j2)
          have s2 := sub_two p 0 _ _ _ _ s1 (by simp only [Nat.zero_add]; exact k2)
          have hl1 := (rd_len h1).1
          have hl2 := (rd_len h2).1
          have hl3 := (rdRs_ok h3).1
          have eh : hdN (mfOf hd rs) = hd := by
            match hd, hl1 with
            | [a, b, c, d, e, f], _ => rfl
          have ec : c = [rs.length] := by
            match c, hl2 with
            | [n], _ => simp only [List.getD_cons_zero] at hl3; rw [hl3]
          have er : (mfOf hd rs).rs = rs := rfl
          have et : payL (mfOf hd rs) = hd.flatMap pv ++ c.flatMap pv ++ (rs.flatMap ruN).flatMap pv := by
            unfold payL; rw [eh, er, ec]; simp
          rw [et, ← s2, ← sub_whole2 p]
          congr 1
          rw [← hz, k1]
        · cases h
theorem dec_only {b : ByteArray} {m : Mf} (h : dcM b = .ok m) : chE m = 0 ∧ b = enT m := by
  unfold dcM at h
  cases hU : dcU b with
  | error e => rw [hU] at h; cases h
  | ok mu =>
    rw [hU] at h
    simp only at h
    split at h
    · next hc =>
      injection h with h
      subst h
      refine ⟨hc, ?_⟩
      unfold dcU at hU
      split at hU
      · cases hU
      · next h1 =>
        split at hU
        · cases hU
        · next h2 =>
          split at hU
          · cases hU
          · next h3 =>
            have hp := unP_only hU
            obtain ⟨k, p, k1, k2, k3, k4, k5, k6⟩ := psA_yes b 0 (Classical.byContradiction h1)
            rw [k5] at h2 h3 hp
            simp only [ne_eq, Classical.not_not] at h2 h3 hp
            apply ba_ext
            rw [pay_frame hc, hp, ← h3, ← k6, ← sub_whole2 b]
            congr 1
            omega
    · cases h
/-- Another text of the same length that is apart in one byte is told. -/
theorem dec_spoilt {m : Mf} (h : chE m = 0) (b : ByteArray) (T : List UInt8) (j q : Nat) (hq : q < 4294967296) (h0 : q ≠ 0) (hT : T.length = (frL 3 (payL m)).length) (hD : leN T = leN (frL 3 (payL m)) ^^^ (2 ^ j * q)) (hb : b.data.toList = T) : ∃ e, dcM b = .error e ∧ e ≠ 0 := by
  have hl := pay_len (goes_of h)
  have hs := spoilt 3 (payL m) T [] j q b (by omega) hq h0 hT hD (by rw [hb]; simp)
  refine ⟨(psA b 0).2.2.2, ?_, hs⟩
  unfold dcM dcU
  rw [if_pos hs]
/-- More bytes behind. -/
theorem dec_more {m : Mf} (h : chE m = 0) (b : ByteArray) (y : List UInt8) (hy : y ≠ []) (hb : b.data.toList = frL 3 (payL m) ++ y) : dcM b = .error 37 := by
  have hl := pay_len (goes_of h)
  have hp := prA_frame b 0 3 (payL m) [] y (by decide) (by decide) (by omega) (by rw [hb]; simp) rfl
  have hps : psA b 0 = (3, payL m, (payL m).length + 14, 0) := by
    have := hp
    rw [show ((0 : Nat) : Int) = 0 from rfl, prA0] at this
    simpa using this
  have hz : b.size = (payL m).length + 14 + y.length := by rw [← nm_size, hb]; simp [frL_len]
  have hy' : 0 < y.length := List.length_pos_iff.2 hy
  unfold dcM dcU
  rw [hps]
  simp only [ne_eq, not_true_eq_false, if_false]
  rw [if_pos (by omega)]
/-- Fewer bytes. -/
theorem dec_less {m : Mf} (h : chE m = 0) (b : ByteArray) (k : Nat) (hk : k < (frL 3 (payL m)).length) (hb : b.data.toList = (frL 3 (payL m)).take k) : ∃ e, dcM b = .error e ∧ e ≠ 0 := by
  cases hd : dcM b with
  | error e =>
    refine ⟨e, rfl, ?_⟩
    unfold dcM at hd
    cases hU : dcU b with
    | error e' => rw [hU] at hd; cases hd; exact dcU_err hU
    | ok mu =>
      rw [hU] at hd
      simp only at hd
      split at hd
      · cases hd
      · next hc => cases hd; exact hc
  | ok m' =>
    exfalso
    obtain ⟨h1, h2⟩ := dec_only hd
    rw [h2, pay_frame h1] at hb
    have hl := pay_len (goes_of h)
    have hl' := pay_len (goes_of h1)
    have e1 := congrArg List.length hb
    rw [List.length_take, frL_len, frL_len] at e1
    rw [frL_len] at hk
    have e2 : (frL 3 (payL m')).take 6 = (frL 3 (payL m)).take 6 := by
      rw [hb, List.take_take]
      congr 1
      omega
    have e3 : ∀ p : List UInt8, (frL 3 p).take 6 = hdL 3 p.length := fun p => by
      unfold frL
      rw [List.append_assoc, List.append_assoc, List.take_append_of_le_length (by rw [hdL_len]; omega), List.take_of_length_le (by rw [hdL_len]; omega)]
    rw [e3, e3] at e2
    have := hdL_inj 3 3 (payL m).length (payL m').length (by omega) (by omega) e2
    omega
end Go.Proofs.YtibjneoiombbfaaDoor
set_option linter.unusedVariables false
set_option linter.unusedSimpArgs false
namespace Go.Proofs.YtibjneoiombbfaaDoor
open Go.RowKit Go.Proofs.SealMath
theorem leN_xor : ∀ (l : List UInt8) (j : Nat) (c y : UInt8), j < l.length → c.toNat = (l.getD j 0).toNat ^^^ y.toNat → leN (l.set j c) = leN l ^^^ (2 ^ (8 * j) * y.toNat)
  | [], j, c, y, h, _ => by simp at h
  | d :: l, 0, c, y, _, hc => by
    have hd := d.toNat_lt
    have hcl := c.toNat_lt
    rw [show ((d :: l).getD 0 0) = d from rfl] at hc
    rw [List.set_cons_zero, leN, leN, le_xor _ _ hcl, le_xor _ _ hd, hc, Nat.mul_zero, Nat.pow_zero, Nat.one_mul, Nat.xor_assoc]
  | d :: l, j + 1, c, y, h, hc => by
    have hd := d.toNat_lt
    rw [List.set_cons_succ, leN, leN, leN_xor l j c y (by simpa using h) hc, le_xor _ _ hd, le_xor _ _ hd]
    have e : 256 * (leN l ^^^ 2 ^ (8 * j) * y.toNat) = 256 * leN l ^^^ 2 ^ (8 * (j + 1)) * y.toNat := by
      have h1 := Nat.shiftLeft_xor_distrib (a := leN l) (b := 2 ^ (8 * j) * y.toNat) (i := 8)
      rw [Nat.shiftLeft_eq, Nat.shiftLeft_eq, Nat.shiftLeft_eq] at h1
      rw [show (256 : Nat) = 2 ^ 8 from rfl, Nat.mul_comm, h1, Nat.mul_comm, Nat.mul_right_comm, ← Nat.pow_add, show 8 * j + 8 = 8 * (j + 1) by omega]
    rw [e, Nat.xor_assoc, Nat.xor_assoc, Nat.xor_comm (2 ^ (8 * (j + 1)) * y.toNat)]
theorem mfw_of {m : Mf} (h : chE m = 0) : MfW m := by
  have g := goes_of h
  have a1 := g.w
  have a2 := g.ch
  have a3 := g.md
  have a4 := g.seq
  have a5 := g.nx
  have a6 := g.jn
  refine ⟨by omega, by omega, by omega, by omega, by omega, by omega, fun r hr => ?_⟩
  have := g.rs r hr
  omega
theorem enT_size {m : Mf} (h : chE m = 0) : (enT m).size = (payL m).length + 14 := by
  rw [← nm_size, pay_frame h, frL_len]
/-- The text with its byte at k changed. -/
theorem dec_one {m : Mf} (h : chE m = 0) (b : ByteArray) (k : Nat) (c y : UInt8) (hk : k < (enT m).size) (hc : c = (enT m).data.toList.getD k 0 ^^^ y) (hb : b.data.toList = (enT m).data.toList.take k ++ c :: (enT m).data.toList.drop (k + 1)) :
    (y = 0 → dcM b = .ok m) ∧ (y ≠ 0 → ∃ e, dcM b = .error e ∧ e ≠ 0) := by
  have hk' : k < (enT m).data.toList.length := by rw [nm_size]; exact hk
  have hs : (enT m).data.toList.take k ++ c :: (enT m).data.toList.drop (k + 1) = (enT m).data.toList.set k c := (List.set_eq_take_append_cons_drop.trans (if_pos hk')).symm
  rw [hs] at hb
  constructor
  · rintro rfl
    refine dec_enc h b (ba_ext ?_)
    rw [hb, hc, UInt8.xor_zero, show (enT m).data.toList.getD k 0 = (enT m).data.toList[k] by simp [List.getD_eq_getElem?_getD, List.getElem?_eq_getElem hk'], List.set_getElem_self]
  · intro hy
    have hy0 : y.toNat ≠ 0 := fun e => hy (UInt8.toNat_inj.1 e)
    have hyl := y.toNat_lt
    rw [pay_frame h] at hb hk' hc
    exact dec_spoilt h b _ (8 * k) y.toNat (by omega) hy0 (by rw [List.length_set]) (leN_xor _ k c y hk' (by rw [hc, UInt8.toNat_xor])) hb
theorem dec_err {b : ByteArray} {e : Int} (hd : dcM b = .error e) : e ≠ 0 := by
  unfold dcM at hd
  cases hU : dcU b with
  | error e' => rw [hU] at hd; cases hd; exact dcU_err hU
  | ok mu =>
    rw [hU] at hd
    simp only at hd
    split at hd
    · cases hd
    · next hc => cases hd; exact hc
end Go.Proofs.YtibjneoiombbfaaDoor
set_option linter.unusedVariables false
set_option linter.unusedSimpArgs false
namespace Go.Proofs.YtibjneoiombbfaaDoor
open Go.RowKit Go.Proofs.SealMath
/-- A manifest's box, and what it leads to. -/
structure TB (w : World) (m : Mf) (la : Option Addr) (c g : Nat) (W : World) : Prop where
  sm : SAt W g (mfC m la c)
  la : LAt W la m.rs
  cap : m.rs.length ≤ c
  tab : Tab W
  pos : 0 < W.heap.size
  bw : Below w.heap.size w W
theorem TB.lat {w : World} {m : Mf} {la : Option Addr} {c g : Nat} {W W' : World} (h : TB w m la c g W) (b : Below W.heap.size W W') : TB w m la c g W' :=
  ⟨h.sm.lat b, h.la.below b, h.cap, h.tab.below b h.pos, Nat.lt_of_lt_of_le h.pos b.size, chain h.bw b (Nat.le_refl _)⟩
theorem TB.new {w : World} {m : Mf} {la : Option Addr} {c : Nat} {W : World} (ow : W.ownsRow 0 43 4 (.slice la m.rs.length c) m.rs.length (m.rs.flatMap ruC)) (tab : Tab W) (pos : 0 < W.heap.size) (bw : Below w.heap.size w W) : TB w m la c W.heap.size (W.alloc (.cells (mfC m la c).toArray 26)) := by
  have b : Below W.heap.size W (W.alloc (.cells (mfC m la c).toArray 26)) := (Below.refl _ W).alloc (Nat.le_refl _) _
  exact ⟨SAt.new W _ _, (own_lat ow).1.below b, (own_lat ow).2, tab.below b pos, Nat.lt_of_lt_of_le pos b.size, chain bw b (Nat.le_refl _)⟩
theorem xor_u8 (x y : UInt8) : bits .xor .u8 (x.toNat : Int) (y.toNat : Int) = ((x ^^^ y).toNat : Int) := by
  rw [UInt8.toNat_xor]
  exact u8_xor_nat x.toNat y.toNat x.toNat_lt y.toNat_lt
theorem conv_cell (W : World) (g : Nat) (c : UInt8) (h : W.cell? ⟨g, 0, none⟩ = some (.int .u8 c.toNat)) : (convert 36 9 (.slice (some ⟨g, 0, none⟩) 1 1)).run Tryd.prog W = .ok (.string ⟨#[c]⟩) W :=
  run_convert_bytes_back W 36 9 5 ⟨g, 0, none⟩ 1 [c] Tryd.underlying36 Tryd.underlying5 Tryd.underlying9 (fun j hj => by
    have hj0 : j = 0 := by simpa using hj
    subst hj0
    have ea : (⟨g, 0, none⟩ : Addr).add 0 = ⟨g, 0, none⟩ := by unfold Addr.add; split <;> simp_all
    rw [ea]
    exact h)
theorem one_cell (W : World) (c : UInt8) : (W.alloc (.cells #[.int .u8 c.toNat] 5)).cell? ⟨W.heap.size, 0, none⟩ = some (.int .u8 c.toNat) := by
  have h := heap_alloc_last W (.cells #[.int .u8 c.toNat] 5)
  simp only [World.cell?, h]; rfl
theorem conv_new (W : World) (c : UInt8) : (convert 36 9 (.slice (some ⟨W.heap.size, 0, none⟩) 1 1)).run Tryd.prog (W.alloc (.cells #[.int .u8 c.toNat] 5)).drew = .ok (.string ⟨#[c]⟩) (W.alloc (.cells #[.int .u8 c.toNat] 5)).drew := conv_cell _ _ c (one_cell W c)
theorem conv_box (W : World) (c : UInt8) (o : Obj) : (convert 36 9 (.slice (some ⟨W.heap.size, 0, none⟩) 1 1)).run Tryd.prog ((W.alloc (.cells #[.int .u8 c.toNat] 5)).alloc o).drew = .ok (.string ⟨#[c]⟩) ((W.alloc (.cells #[.int .u8 c.toNat] 5)).alloc o).drew :=
  conv_cell _ _ c (cell_lat ((Below.refl _ _).alloc (Nat.le_refl _) o).drew (one_cell W c))
set_option maxHeartbeats 16000000 in
set_option maxRecDepth 100000 in
theorem law_back (m : Mf) (mla : Option Addr) (mc : Nat) (b : ByteArray) (q : Int) (y : UInt8) (w : World) (hL : LAt w mla m.rs) (hw : MfW m) (hc : m.rs.length ≤ mc) (hs : m.rs.length < 4611686018427387904) (hb : b.size < 4611686018427387904) (hq : I64 q) (ht : Tab w) (hg0 : 0 < w.heap.size) :
    Calls Tryd.prog 3 #[.agg (mfC m mla mc).toArray, .string b, .int .i64 q, .int .u8 y.toNat] w fun e w' => e = .returned (.bool true) ∧ Below w.heap.size w w' := by
  obtain ⟨wa, hwa⟩ : ∃ wa, wa = w.alloc (.cells (mfC m mla mc).toArray 26) := ⟨_, rfl⟩
  have ba : Below w.heap.size w wa := by rw [hwa]; exact (Below.refl _ w).alloc (Nat.le_refl _) _
  have SA : SAt wa w.heap.size (mfC m mla mc) := by rw [hwa]; exact SAt.new w _ _
  have hwa' : w.alloc (.cells (mfC m mla mc).toArray 26) = wa := hwa.symm
  have cg := goes_any m mla mc wa (hL.below ba) hw hc hs
  obtain ⟨X, hX⟩ : ∃ X, X = goM m := ⟨_, rfl⟩
  have h0 : chE X = 0 := by rw [hX]; exact goM_ok m
  rw [← hX] at cg
  have hl24 := (goes_of h0).len
  obtain ⟨T, hT⟩ : ∃ T, T = enT X := ⟨_, rfl⟩
  have hTz : T.size = (payL X).length + 14 := by rw [hT]; exact enT_size h0
  have hpl := pay_len (goes_of h0)
  have ce := fun W la c g (h : TB w X la c g W) => encode_any X la c W h.la (mfw_of h0) h.cap (by omega) h.tab h.pos
  rw [← hT, h0] at ce
  have cd := fun W la c g (h : TB w X la c g W) => decode_any T W h.tab h.pos (by omega)
  rw [dec_enc h0 T hT] at cd
  have cs := fun W la c g lb d gy (h : TB w X la c g W) (h' : TB w X lb d gy W) => same_eq X la lb c d W h.la h'.la h.cap h'.cap (by omega)
  have cp := fun W => pick_any q T.size W (by omega) (by omega) (by omega)
  obtain ⟨k, hk⟩ : ∃ k : Nat, q % (T.size : Int) = k := ⟨(q % (T.size : Int)).toNat, by have := Int.emod_nonneg q (show (T.size : Int) ≠ 0 by omega); omega⟩
  have hkl : k < T.size := by have := Int.emod_lt_of_pos q (show (0 : Int) < T.size by omega); omega
  rw [hk] at cp
  clear hk
  have hTL : T.data.toList = frL 3 (payL X) := by rw [hT]; exact pay_frame h0
  obtain ⟨e1, hd1, he1⟩ := dec_less h0 (T.extract 0 k) k (by rw [← hTL, nm_size]; exact hkl) (by rw [← hTL]; simp)
  have cd1 := fun W g la c (h : TB w X la c g W) => decode_any (T.extract 0 k) W h.tab h.pos (by simp; omega)
  rw [hd1] at cd1
  have hd2 := dec_more h0 (T ++ ⟨#[120]⟩) [120] (by simp) (by rw [← hTL]; simp)
  have cd2 := fun W g la c (h : TB w X la c g W) => decode_any (T ++ ⟨#[120]⟩) W h.tab h.pos (by rw [ByteArray.size_append]; have : (⟨#[120]⟩ : ByteArray).size = 1 := rfl; omega)
  rw [hd2] at cd2
  have hTs : T.size ≤ 2014 := by omega
  obtain ⟨B3, hB3⟩ : ∃ B3, B3 = T.extract 0 k ++ ⟨#[T[k] ^^^ y]⟩ ++ T.extract (k + 1) T.size := ⟨_, rfl⟩
  have hB3' : T.extract 0 k ++ ⟨#[T[k] ^^^ y]⟩ ++ T.extract (k + 1) T.size = B3 := hB3.symm
  have hB3z : B3.size < 4611686018427387904 := by
    rw [hB3, ByteArray.size_append, ByteArray.size_append]
    have : (⟨#[T[k] ^^^ y]⟩ : ByteArray).size = 1 := rfl
    simp
    omega
  have D3 := dec_one h0 B3 k (T[k] ^^^ y) y (by rw [← hT]; exact hkl) (by
      rw [← hT]
      congr 1
      simp [List.getD_eq_getElem?_getD, List.getElem?_eq_getElem (show k < T.data.toList.length by rw [nm_size]; exact hkl)]
      rfl) (by
      rw [← hT, hB3]
      simp only [ByteArray.data_append, ByteArray.data_extract, Array.toList_append, Array.toList_extract, List.extract_eq_take_drop, Nat.sub_zero, List.drop_zero, List.append_assoc, List.cons_append, List.nil_append]
      congr 2
      exact List.take_of_length_le (by simp))
  obtain ⟨E3, hE3⟩ : ∃ E3, E3 = unE (dcM B3) := ⟨_, rfl⟩
  obtain ⟨M3, hM3⟩ : ∃ M3, M3 = dcV (dcM B3) := ⟨_, rfl⟩
  have he3 : (E3 == 0) = ((y.toNat : Int) == 0) := by
    by_cases hy : y = 0
    · rw [hE3, D3.1 hy, hy]; rfl
    · obtain ⟨e, hd, he⟩ := D3.2 hy
      rw [hE3, hd]
      have h1 : y.toNat ≠ 0 := fun h => hy (UInt8.toNat_inj.1 h)
      have h2 : ((y.toNat : Int) == 0) = false := by simpa using h1
      rw [h2]
      simpa [unE] using he
  have cd3 := fun W g la c (h : TB w X la c g W) => decode_any B3 W h.tab h.pos hB3z
  unfold DeR at cd3
  rw [← hE3, ← hM3] at cd3
  have CDB := Hid.mk (fun W g la c (h : TB w X la c g W) => decode_any b W h.tab h.pos hb)
  have HT := Hid.mk ht
  have HBA := Hid.mk ba
  have mk : ∀ (la : Option Addr) (c : Nat) (w1 : World), w1.ownsRow 0 43 4 (.slice la X.rs.length c) X.rs.length (X.rs.flatMap ruC) → Below wa.heap.size wa w1 → Hid (TB w X la c w1.heap.size (w1.alloc (.cells (mfC X la c).toArray 26))) := fun la c w1 h b1 => by
    have b2 := chain HBA.out b1 (Nat.le_refl _)
    exact TB.new h (HT.out.below b2 hg0) (Nat.lt_of_lt_of_le hg0 b2.size) b2
  obtain ⟨a0, a1, a2, a3, a4, a5, a6⟩ := SA.cs
  have HH0 := Hid.mk h0
  have HTT := Hid.mk hT
  have HTZ := Hid.mk hTz
  clear hwa hX hL ht hw SA ba hT h0 hTz hl24 hd1 hd2 hTL hpl D3 hE3 hM3 hB3 hB3z
  simp only [mfC] at hwa' cg ce cd cs ⊢
  go_enter Tryd.func3, Tryd.ntmps3
  go_wp2_with first
    | (go_at_call 9; refine cg.mono ?_; rintro e w1 ⟨la, c, rfl, ow1, -, b1⟩; clear cg a0 a1 a2 a3 a4 a5 a6; have X1 := mk la c w1 ow1 b1; clear ow1 b1; obtain ⟨wx, hwx⟩ : ∃ wx, wx = w1.alloc (.cells (mfC X la c).toArray 26) := ⟨_, rfl⟩; rw [← hwx] at X1; have hwx' : w1.alloc (.cells (mfC X la c).toArray 26) = wx := hwx.symm; clear hwx; simp only [mfC] at hwx'; obtain ⟨t0, t1, t2, t3, t4, t5, t6⟩ := X1.out.sm.cs)
    | (go_at_call 10; refine (ce wx la c _ X1.out).mono ?_; rintro e w2 ⟨rfl, b2⟩; have X2 := Hid.mk (X1.out.lat b2); clear t0 t1 t2 t3 t4 t5 t6 X1 b2 hwx'; generalize w1.heap.size = gx at X2 ⊢)
    | (go_at_call 11; refine (cd w2 la c _ X2.out).mono ?_; rintro e w3 ⟨lb, d, rfl, ow3, -, b3⟩; clear cd; have X3 := X2.out.lat b3; have Y3 : TB w X lb d w3.heap.size (w3.alloc (.cells (mfC X lb d).toArray 26)) := TB.new ow3 X3.tab X3.pos X3.bw; obtain ⟨wy, hwy⟩ : ∃ wy, wy = w3.alloc (.cells (mfC X lb d).toArray 26) := ⟨_, rfl⟩; have X4 : TB w X la c gx wy := (by rw [hwy]; exact X3.lat ((Below.refl _ w3).alloc (Nat.le_refl _) _)); rw [← hwy] at Y3; have hwy' : w3.alloc (.cells (mfC X lb d).toArray 26) = wy := hwy.symm; obtain ⟨t0, t1, t2, t3, t4, t5, t6⟩ := X4.sm.cs; obtain ⟨s0, s1, s2, s3, s4, s5, s6⟩ := Y3.sm.cs; have XY := Hid.mk (And.intro X4 Y3); clear hwy ow3 b3 X3 X2 X4 Y3; simp only [mfC] at hwy'; simp only [dcV, unE, mfC])
    | (go_at_call 12; refine (cs wy la c _ lb d _ XY.out.1 XY.out.2).mono ?_; rintro e w5 ⟨rfl, b5⟩; have X5 := Hid.mk (XY.out.1.lat b5); clear b5 XY t0 t1 t2 t3 t4 t5 t6 s0 s1 s2 s3 s4 s5 s6 hwy')
    | (go_at_call 13; refine (num_any _ _).mono ?_; rintro e w' ⟨rfl, rfl⟩)
    | (go_at_call 14; refine (cp _).mono ?_; rintro e w' ⟨rfl, rfl⟩; clear cp)
    | (go_at_call 11; refine (cd1 _ _ _ _ X5.out).mono ?_; rintro e w6 ⟨l6, c6, rfl, -, -, b6⟩; clear cd1; have X6 := X5.out.lat b6; obtain ⟨wzw6, hwz⟩ : ∃ wz, wz = w6.alloc (.cells (mfC mz l6 c6).toArray 26) := ⟨_, rfl⟩; have X7 : Hid (TB w X la c gx wzw6) := (by rw [hwz]; exact X6.lat ((Below.refl _ w6).alloc (Nat.le_refl _) _)); have hwzw6 := hwz.symm; clear b6 X5 X6 hwz; simp only [mfC, mz, List.length_nil] at hwzw6; simp only [dcV, unE, mfC, mz, List.length_nil])
    | (go_at_call 11; refine (cd2 _ _ _ _ X7.out).mono ?_; rintro e w8 ⟨l8, c8, rfl, -, -, b6⟩; clear cd2; have X6 := X7.out.lat b6; obtain ⟨wzw8, hwz⟩ : ∃ wz, wz = w8.alloc (.cells (mfC mz l8 c8).toArray 26) := ⟨_, rfl⟩; have X9 : Hid (TB w X la c gx wzw8) := (by rw [hwz]; exact X6.lat ((Below.refl _ w8).alloc (Nat.le_refl _) _)); have hwzw8 := hwz.symm; clear b6 X7 X6 hwz; simp only [mfC, mz, List.length_nil] at hwzw8; simp only [dcV, unE, mfC, mz, List.length_nil])
  have hx1 : bits .xor .u8 (T[k].toNat : Int) (y.toNat : Int) = ((T[k] ^^^ y).toNat : Int) := xor_u8 _ _
  have hcv := conv_new wzw8 (T[k] ^^^ y)
  rw [UInt8.toNat_xor] at hcv
  have hcv2 := conv_new (wzw8.alloc (.cells #[.int .i64 0, .int .i64 0, .int .i64 0, .int .i64 0, .int .i64 0, .int .i64 0, .slice none 0 0] 26)) (T[k] ^^^ y)
  rw [UInt8.toNat_xor] at hcv2
  have hcv3 := conv_box wzw8 (T[k] ^^^ y) (.cells #[.int .i64 0, .int .i64 0, .int .i64 0, .int .i64 0, .int .i64 0, .int .i64 0, .slice none 0 0] 26)
  rw [UInt8.toNat_xor] at hcv3
  have sz1 : ∀ o, (wzw8.alloc o).heap.size = wzw8.heap.size + 1 := fun o => by simp
  rw [sz1] at hcv2
  have bdA : ∀ o, Below wzw8.heap.size wzw8 (wzw8.alloc o).drew := fun o => ((Below.refl _ _).alloc (Nat.le_refl _) _).drew
  have bdB : ∀ o o', Below wzw8.heap.size wzw8 ((wzw8.alloc o).alloc o').drew := fun o o' => (((Below.refl _ _).alloc (Nat.le_refl _) _).alloc (by simp) _).drew
  have zB : ∀ o w10, Below ((wzw8.alloc o).alloc (.cells #[.int .i64 0, .int .i64 0, .int .i64 0, .int .i64 0, .int .i64 0, .int .i64 0, .slice none 0 0] 26)).drew.heap.size ((wzw8.alloc o).alloc (.cells #[.int .i64 0, .int .i64 0, .int .i64 0, .int .i64 0, .int .i64 0, .int .i64 0, .slice none 0 0] 26)).drew w10 → Zr w10 (wzw8.heap.size + 1) := fun o w10 b => by
    have h : Zr ((wzw8.alloc o).alloc (.cells #[.int .i64 0, .int .i64 0, .int .i64 0, .int .i64 0, .int .i64 0, .int .i64 0, .slice none 0 0] 26)) (wzw8.heap.size + 1) := by rw [← sz1 o]; exact heap_alloc_last _ _
    exact (b.block _ (by (show _ < ((wzw8.alloc o).alloc _).heap.size); simp)).trans h
  have zC : ∀ o w10, Below ((wzw8.alloc (.cells #[.int .i64 0, .int .i64 0, .int .i64 0, .int .i64 0, .int .i64 0, .int .i64 0, .slice none 0 0] 26)).alloc o).drew.heap.size ((wzw8.alloc (.cells #[.int .i64 0, .int .i64 0, .int .i64 0, .int .i64 0, .int .i64 0, .int .i64 0, .slice none 0 0] 26)).alloc o).drew w10 → Zr w10 wzw8.heap.size := fun o w10 b => by
    have h : Zr (wzw8.alloc (.cells #[.int .i64 0, .int .i64 0, .int .i64 0, .int .i64 0, .int .i64 0, .int .i64 0, .slice none 0 0] 26)) wzw8.heap.size := heap_alloc_last _ _
    have h2 : Below (wzw8.alloc (.cells #[.int .i64 0, .int .i64 0, .int .i64 0, .int .i64 0, .int .i64 0, .int .i64 0, .slice none 0 0] 26)).heap.size (wzw8.alloc (.cells #[.int .i64 0, .int .i64 0, .int .i64 0, .int .i64 0, .int .i64 0, .int .i64 0, .slice none 0 0] 26)) ((wzw8.alloc (.cells #[.int .i64 0, .int .i64 0, .int .i64 0, .int .i64 0, .int .i64 0, .int .i64 0, .slice none 0 0] 26)).alloc o) := (Below.refl _ _).alloc (Nat.le_refl _) _
    exact (b.block _ (by (show _ < ((wzw8.alloc _).alloc o).heap.size); simp; omega)).trans ((h2.block _ (by simp)).trans h)
  have HS := Hid.mk (And.intro sz1 (And.intro bdA (And.intro bdB (And.intro zB zC))))
  clear sz1 bdA bdB zB zC
  simp only [mfC] at cd3
  have hk1 : k ≤ T.size := by omega
  have hk2 : k + 1 ≤ T.size := by omega
  have hk3 : (k : Int) < (T.size : Int) := by omega
  have hk4 : (0 : Int) ≤ (k : Int) := by omega
  have hk7 : k + 1 ≤ 9223372036854775807 := by omega
  have hk8 : k + 1 + (T.size - (k + 1)) ≤ 9223372036854775807 := by omega
  have hk5 : (0 : Int) ≤ (k : Int) + 1 := by omega
  have hk6 : (k : Int) + 1 ≤ (T.size : Int) := by omega
  have hw1 : IntKind.i64.wrap ((k : Int) + 1) = (k : Int) + 1 := by rw [IntKind.wrap_i64]; omega
  refine wp_region_held_drew (S := fun W => Below wzw8.heap.size wzw8 W) (by kernel_rfl) ((Below.refl _ wzw8).drew) (fun hHeld => ?_)
  refine wpAnyH_take (i := 0) (oi := { dst := some 71, op := Op.move (Operand.tmp 10), type := 9, pos := "outright.go:55", after := #[], guard := none }) (v := ?v1) rfl (by kernel_rfl) (by kernel_rfl) (by kernel_rfl) (fun _ _ _ h => h) (Or.inl ⟨by rfl, ?h1⟩) (by assumption) ?r1
  case h1 => (intro w0 hSw; (try dsimp only at hSw); go_simp; first | done | (with_reducible rfl) | (rw [if_neg (by omega)]; try (with_reducible rfl)))
  simp only [Act.put, List.setIfInBounds_toArray, List.set_cons_zero, List.set_cons_succ]
  refine wpAnyH_take (i := 1) (oi := { dst := some 72, op := Op.move (Operand.tmp 15), type := 3, pos := "outright.go:55", after := #[], guard := none }) (v := ?v2) rfl (by kernel_rfl) (by kernel_rfl) (by kernel_rfl) (fun _ _ _ h => h) (Or.inl ⟨by rfl, ?h2⟩) (by assumption) ?r2
  case h2 => (intro w0 hSw; (try dsimp only at hSw); go_simp; first | done | (with_reducible rfl) | (rw [if_neg (by omega)]; try (with_reducible rfl)))
  simp only [Act.put, List.setIfInBounds_toArray, List.set_cons_zero, List.set_cons_succ]
  refine wpAnyH_take (i := 2) (oi := { dst := some 73, op := Op.slice 9 (Operand.tmp 71) none (some (Operand.tmp 72)) none, type := 9, pos := "outright.go:55", after := #[{ on := 0, ground := Ground.data }, { on := 1, ground := Ground.data }], guard := none }) (v := ?v3) rfl (by kernel_rfl) (by kernel_rfl) (by kernel_rfl) (fun _ _ _ h => h) (Or.inl ⟨by rfl, ?h3⟩) (by assumption) ?r3
  case h3 => (intro w0 hSw; (try dsimp only at hSw); go_simp; first | done | (with_reducible rfl) | (rw [if_neg (by omega)]; try (with_reducible rfl)))
  simp only [Act.put, List.setIfInBounds_toArray, List.set_cons_zero, List.set_cons_succ]
  refine wpAnyH_take (i := 3) (oi := { dst := some 74, op := Op.move (Operand.tmp 10), type := 9, pos := "outright.go:55", after := #[], guard := none }) (v := ?v4) rfl (by kernel_rfl) (by kernel_rfl) (by kernel_rfl) (fun _ _ _ h => h) (Or.inl ⟨by rfl, ?h4⟩) (by assumption) ?r4
  case h4 => (intro w0 hSw; (try dsimp only at hSw); go_simp; first | done | (with_reducible rfl) | (rw [if_neg (by omega)]; try (with_reducible rfl)))
  simp only [Act.put, List.setIfInBounds_toArray, List.set_cons_zero, List.set_cons_succ]
  refine wpAnyH_take (i := 4) (oi := { dst := some 75, op := Op.move (Operand.tmp 15), type := 3, pos := "outright.go:55", after := #[], guard := none }) (v := ?v5) rfl (by kernel_rfl) (by kernel_rfl) (by kernel_rfl) (fun _ _ _ h => h) (Or.inl ⟨by rfl, ?h5⟩) (by assumption) ?r5
  case h5 => (intro w0 hSw; (try dsimp only at hSw); go_simp; first | done | (with_reducible rfl) | (rw [if_neg (by omega)]; try (with_reducible rfl)))
  simp only [Act.put, List.setIfInBounds_toArray, List.set_cons_zero, List.set_cons_succ]
  refine wpAnyH_take (i := 5) (oi := { dst := some 76, op := Op.index 9 (Operand.tmp 74) (Operand.tmp 75), type := 5, pos := "outright.go:55", after := #[{ on := 3, ground := Ground.data }, { on := 4, ground := Ground.data }], guard := none }) (v := ?v6) rfl (by kernel_rfl) (by kernel_rfl) (by kernel_rfl) (fun _ _ _ h => h) (Or.inl ⟨by rfl, ?h6⟩) (by assumption) ?r6
  case h6 => (intro w0 hSw; (try dsimp only at hSw); go_simp; first | done | (with_reducible rfl) | (rw [if_neg (by omega)]; try (with_reducible rfl)))
  simp only [Act.put, List.setIfInBounds_toArray, List.set_cons_zero, List.set_cons_succ]
  refine wpAnyH_take (i := 6) (oi := { dst := some 77, op := Op.move (Operand.tmp 3), type := 5, pos := "outright.go:55", after := #[], guard := none }) (v := ?v7) rfl (by kernel_rfl) (by kernel_rfl) (by kernel_rfl) (fun _ _ _ h => h) (Or.inl ⟨by rfl, ?h7⟩) (by assumption) ?r7
  case h7 => (intro w0 hSw; (try dsimp only at hSw); go_simp; first | done | (with_reducible rfl) | (rw [if_neg (by omega)]; try (with_reducible rfl)))
  simp only [Act.put, List.setIfInBounds_toArray, List.set_cons_zero, List.set_cons_succ]
  refine wpAnyH_take (i := 7) (oi := { dst := some 78, op := Op.binOp BinOp.xor 5 (Operand.tmp 76) (Operand.tmp 77) 5, type := 5, pos := "outright.go:55", after := #[{ on := 5, ground := Ground.data }, { on := 6, ground := Ground.data }], guard := none }) (v := ?v8) rfl (by kernel_rfl) (by kernel_rfl) (by kernel_rfl) (fun _ _ _ h => h) (Or.inl ⟨by rfl, ?h8⟩) (by assumption) ?r8
  case h8 => (intro w0 hSw; (try dsimp only at hSw); go_simp; first | done | (with_reducible rfl) | (rw [if_neg (by omega)]; try (with_reducible rfl)))
  simp only [Act.put, List.setIfInBounds_toArray, List.set_cons_zero, List.set_cons_succ]
  refine wpAnyH_take (i := 11) (oi := { dst := some 82, op := Op.move (Operand.tmp 10), type := 9, pos := "outright.go:55", after := #[], guard := none }) (v := ?v9) rfl (by kernel_rfl) (by kernel_rfl) (by kernel_rfl) (fun _ _ _ h => h) (Or.inl ⟨by rfl, ?h9⟩) (by assumption) ?r9
  case h9 => (intro w0 hSw; (try dsimp only at hSw); go_simp; first | done | (with_reducible rfl) | (rw [if_neg (by omega)]; try (with_reducible rfl)))
  simp only [Act.put, List.setIfInBounds_toArray, List.set_cons_zero, List.set_cons_succ]
  refine wpAnyH_take (i := 12) (oi := { dst := some 83, op := Op.move (Operand.tmp 15), type := 3, pos := "outright.go:55", after := #[], guard := none }) (v := ?v10) rfl (by kernel_rfl) (by kernel_rfl) (by kernel_rfl) (fun _ _ _ h => h) (Or.inl ⟨by rfl, ?h10⟩) (by assumption) ?r10
  case h10 => (intro w0 hSw; (try dsimp only at hSw); go_simp; first | done | (with_reducible rfl) | (rw [if_neg (by omega)]; try (with_reducible rfl)))
  simp only [Act.put, List.setIfInBounds_toArray, List.set_cons_zero, List.set_cons_succ]
  refine wpAnyH_take (i := 13) (oi := { dst := some 84, op := Op.binOp BinOp.add 3 (Operand.tmp 83) (Operand.const (Value.int IntKind.i64 1)) 3, type := 3, pos := "outright.go:55", after := #[{ on := 12, ground := Ground.data }], guard := none }) (v := ?v11) rfl (by kernel_rfl) (by kernel_rfl) (by kernel_rfl) (fun _ _ _ h => h) (Or.inl ⟨by rfl, ?h11⟩) (by assumption) ?r11
  case h11 => (intro w0 hSw; (try dsimp only at hSw); go_simp; first | done | (with_reducible rfl) | (rw [if_neg (by omega)]; try (with_reducible rfl)))
  simp only [Act.put, List.setIfInBounds_toArray, List.set_cons_zero, List.set_cons_succ]
  refine wpAnyH_take (i := 14) (oi := { dst := some 85, op := Op.slice 9 (Operand.tmp 82) (some (Operand.tmp 84)) none none, type := 9, pos := "outright.go:55", after := #[{ on := 11, ground := Ground.data }, { on := 13, ground := Ground.data }], guard := none }) (v := ?v12) rfl (by kernel_rfl) (by kernel_rfl) (by kernel_rfl) (fun _ _ _ h => h) (Or.inl ⟨by rfl, ?h12⟩) (by assumption) ?r12
  case h12 => (intro w0 hSw; (try dsimp only at hSw); go_simp; first | done | (with_reducible rfl) | (rw [if_neg (by omega)]; try (with_reducible rfl)))
  simp only [Act.put, List.setIfInBounds_toArray, List.set_cons_zero, List.set_cons_succ]
  refine wpAnyH_ready (rs := [8, 20]) (by kernel_rfl) (by simp) ?_
  refine AllReadyH.cons rfl (fun K hK => ?_) (AllReadyH.cons rfl (fun K hK => ?_) AllReadyH.nil)
  · go_simp
    refine hK.out _ _ ?_ (fun hHeld => ?_)
    · exact HS.out.2.1 _
    clear hK K
    refine wpAnyH_ready (rs := [9, 20]) (by kernel_rfl) (by simp) ?_
    refine AllReadyH.cons rfl (fun K hK => ?_) (AllReadyH.cons rfl (fun K hK => ?_) AllReadyH.nil)
    · go_simp
      refine hK.out _ _ ?_ (fun hHeld => ?_)
      · exact HS.out.2.1 _
      clear hK K
      refine wpAnyH_take (i := 10) (oi := { dst := some 81, op := Op.binOp BinOp.add 9 (Operand.tmp 73) (Operand.tmp 80) 9, type := 9, pos := "outright.go:55", after := #[{ on := 2, ground := Ground.data }, { on := 9, ground := Ground.data }], guard := none }) (v := ?v13) rfl (by kernel_rfl) (by kernel_rfl) (by kernel_rfl) (fun _ _ _ h => h) (Or.inl ⟨by rfl, ?h13⟩) (by assumption) ?r13
      case h13 => (intro w0 hSw; (try dsimp only at hSw); go_simp; first | done | (with_reducible rfl) | (rw [if_neg (by omega)]; try (with_reducible rfl)))
      simp only [Act.put, List.setIfInBounds_toArray, List.set_cons_zero, List.set_cons_succ]
      refine wpAnyH_take (i := 15) (oi := { dst := some 86, op := Op.binOp BinOp.add 9 (Operand.tmp 81) (Operand.tmp 85) 9, type := 9, pos := "outright.go:55", after := #[{ on := 10, ground := Ground.data }, { on := 14, ground := Ground.data }], guard := none }) (v := ?v14) rfl (by kernel_rfl) (by kernel_rfl) (by kernel_rfl) (fun _ _ _ h => h) (Or.inl ⟨by rfl, ?h14⟩) (by assumption) ?r14
      case h14 => (intro w0 hSw; (try dsimp only at hSw); go_simp; first | done | (with_reducible rfl) | (rw [if_neg (by omega)]; try (with_reducible rfl)))
      simp only [Act.put, List.setIfInBounds_toArray, List.set_cons_zero, List.set_cons_succ]
      refine wpAnyH_ready (rs := [16, 20]) (by kernel_rfl) (by simp) ?_
      refine AllReadyH.cons rfl (fun K hK => ?_) (AllReadyH.cons rfl (fun K hK => ?_) AllReadyH.nil)
      · go_simp
        go_wp2_with (go_at_call 11; refine (cd3 _ _ _ _ (X9.out.lat (HS.out.2.1 _))).mono ?_; rintro e w10 ⟨l10, c10, rfl, -, -, b10⟩; have H10 := Hid.mk (chain (HS.out.2.1 _) b10 (Nat.le_refl _)); simp only [mfC]; clear b10)
        refine hK.out _ _ ?_ (fun hHeld => ?_)
        · exact H10.out
        clear hK K
        refine wpAnyH_take (i := 17) (oi := { dst := some 70, op := Op.move (Operand.tmp 87), type := 31, pos := "outright.go:55", after := #[{ on := 16, ground := Ground.data }], guard := none }) (v := ?v15) rfl (by kernel_rfl) (by kernel_rfl) (by kernel_rfl) (fun _ _ _ h => h) (Or.inl ⟨by rfl, ?h15⟩) (by assumption) ?r15
        case h15 => (intro w0 hSw; (try dsimp only at hSw); go_simp; first | done | (with_reducible rfl) | (rw [if_neg (by omega)]; try (with_reducible rfl)))
        simp only [Act.put, List.setIfInBounds_toArray, List.set_cons_zero, List.set_cons_succ]
        refine wpAnyH_take (i := 18) (oi := { dst := some 88, op := Op.extract (Operand.tmp 70) 0, type := 26, pos := "outright.go:55", after := #[{ on := 17, ground := Ground.data }], guard := none }) (v := ?v16) rfl (by kernel_rfl) (by kernel_rfl) (by kernel_rfl) (fun _ _ _ h => h) (Or.inl ⟨by rfl, ?h16⟩) (by assumption) ?r16
        case h16 => (intro w0 hSw; (try dsimp only at hSw); go_simp; first | done | (with_reducible rfl) | (rw [if_neg (by omega)]; try (with_reducible rfl)))
        simp only [Act.put, List.setIfInBounds_toArray, List.set_cons_zero, List.set_cons_succ]
        refine wpAnyH_take (i := 19) (oi := { dst := some 89, op := Op.extract (Operand.tmp 70) 1, type := 28, pos := "outright.go:55", after := #[{ on := 17, ground := Ground.data }, { on := 21, ground := Ground.gcOnly Departure.lateStores }], guard := none }) (v := ?v17) rfl (by kernel_rfl) (by kernel_rfl) (by kernel_rfl) (fun _ _ _ h => h) (Or.inl ⟨by rfl, ?h17⟩) (by assumption) ?r17
        case h17 => (intro w0 hSw; (try dsimp only at hSw); go_simp; first | done | (with_reducible rfl) | (rw [if_neg (by omega)]; try (with_reducible rfl)))
        simp only [Act.put, List.setIfInBounds_toArray, List.set_cons_zero, List.set_cons_succ]
        refine wpAnyH_ready (rs := [20]) (by kernel_rfl) (by simp) ?_
        refine AllReadyH.cons rfl (fun K hK => ?_) AllReadyH.nil
        go_simp
        refine hK.out _ _ ?_ (fun hHeld => ?_)
        · exact H10.out.alloc H10.out.size _
        clear hK K
        refine wpAnyH_ready (rs := [21]) (by kernel_rfl) (by simp) ?_
        refine AllReadyH.cons rfl (fun K hK => ?_) AllReadyH.nil
        go_simp
        refine hK.out _ _ ?_ (fun hHeld => ?_)
        · first | exact H10.out.alloc H10.out.size _ | exact ((((((((H10.out.alloc H10.out.size _).setCell H10.out.size _).setCell H10.out.size _).setCell H10.out.size _).setCell H10.out.size _).setCell H10.out.size _).setCell H10.out.size _).setCell H10.out.size _)
        clear hK K
        refine wpAnyH_take (i := 22) (oi := { dst := some 21, op := Op.assign (Operand.tmp 89), type := 28, pos := "outright.go:55", after := #[{ on := 19, ground := Ground.data }, { on := 21, ground := Ground.chain }, { on := 0, ground := Ground.phase }, { on := 1, ground := Ground.phase }, { on := 2, ground := Ground.phase }, { on := 3, ground := Ground.phase }, { on := 4, ground := Ground.phase }, { on := 5, ground := Ground.phase }, { on := 6, ground := Ground.phase }, { on := 7, ground := Ground.phase }, { on := 8, ground := Ground.phase }, { on := 9, ground := Ground.phase }, { on := 10, ground := Ground.phase }, { on := 11, ground := Ground.phase }, { on := 12, ground := Ground.phase }, { on := 13, ground := Ground.phase }, { on := 14, ground := Ground.phase }, { on := 15, ground := Ground.phase }, { on := 16, ground := Ground.phase }, { on := 17, ground := Ground.phase }, { on := 18, ground := Ground.phase }, { on := 19, ground := Ground.phase }, { on := 20, ground := Ground.phase }, { on := 21, ground := Ground.phase }], guard := none }) (v := ?v18) rfl (by kernel_rfl) (by kernel_rfl) (by kernel_rfl) (fun _ _ _ h => h) (Or.inl ⟨by rfl, ?h18⟩) (by assumption) ?r18
        case h18 => (intro w0 hSw; (try dsimp only at hSw); go_simp; first | done | (with_reducible rfl) | (rw [if_neg (by omega)]; try (with_reducible rfl)))
        simp only [Act.put, List.setIfInBounds_toArray, List.set_cons_zero, List.set_cons_succ]
        refine wpAnyH_done (by kernel_rfl) ?_ _
        have HF := Hid.mk (X9.out.lat hHeld)
        have hq1 : (e1 == 0) = false := by simpa using he1
        have hdb := CDB.out _ _ _ _ HF.out
        clear CDB cd3
        cases hX : dcM b with
        | error e =>
          have hne := dec_err hX
          rw [hX] at hdb
          have hq2 : (e == 0) = false := by simpa using hne
          have hq3 : (e != 0) = true := by simpa using hne
          clear hX hne
          go_wp2_with first
            | (go_at_call 13; refine (num_any _ _).mono ?_; rintro e w' ⟨rfl, rfl⟩)
          refine hdb.mono ?_
          clear hdb
          rintro r w11 ⟨l11, c11, rfl, -, -, b11⟩
          have K11 := HF.out.lat b11
          obtain ⟨wz, hwz⟩ : ∃ wz, wz = w11.alloc (.cells (mfC mz l11 c11).toArray 26) := ⟨_, rfl⟩
          have bz : Below w11.heap.size w11 wz := by rw [hwz]; exact (Below.refl _ w11).alloc (Nat.le_refl _) _
          have SZ : SAt wz w11.heap.size (mfC mz l11 c11) := by rw [hwz]; exact SAt.new w11 _ _
          obtain ⟨t0, t1, t2, t3, t4, t5, t6⟩ := SZ.cs
          have hsm := same_eq mz l11 none c11 0 wz ⟨fun h => absurd rfl h⟩ ⟨fun h => absurd rfl h⟩ (Nat.zero_le _) (Nat.zero_le _) (by decide)
          have hwz' := hwz.symm
          have FN := Hid.mk (chain K11.bw bz (Nat.le_refl _))
          clear hwz SZ bz K11 b11 HF hHeld
          simp only [mfC, mz, List.length_nil] at hwz' hsm t0 t1 t2 t3 t4 t5 t6
          simp only [dcV, unE, mfC, mz, List.length_nil]
          go_wp2_with first
            | (go_at_call 13; refine (num_any _ _).mono ?_; rintro e w' ⟨rfl, rfl⟩)
            | (go_at_call 12; refine hsm.mono ?_; clear hsm; rintro e w12 ⟨rfl, b12⟩; have FN2 := Hid.mk (chain FN.out b12 (Nat.le_refl _)); clear b12)
          go_ret
          exact ⟨rfl, FN2.out⟩
        | ok z =>
          obtain ⟨hz0, hbz⟩ := dec_only hX
          rw [hX] at hdb
          have HZ := Hid.mk (And.intro hz0 hbz)
          clear hX hz0 hbz
          go_wp2_with first
            | (go_at_call 13; refine (num_any _ _).mono ?_; rintro e w' ⟨rfl, rfl⟩)
          refine hdb.mono ?_
          clear hdb
          rintro r w11 ⟨l11, c11, rfl, ow11, -, b11⟩
          have K11 := HF.out.lat b11
          obtain ⟨wz, hwz⟩ : ∃ wz, wz = w11.alloc (.cells (mfC z l11 c11).toArray 26) := ⟨_, rfl⟩
          have KZ : TB w z l11 c11 w11.heap.size wz := by rw [hwz]; exact TB.new ow11 K11.tab K11.pos K11.bw
          obtain ⟨t0, t1, t2, t3, t4, t5, t6⟩ := KZ.sm.cs
          have hen := encode_any z l11 c11 wz KZ.la (mfw_of HZ.out.1) KZ.cap (by have := (goes_of HZ.out.1).len; omega) KZ.tab KZ.pos
          rw [← HZ.out.2, HZ.out.1] at hen
          have hwz' := hwz.symm
          have FN := Hid.mk KZ.bw
          clear hwz KZ K11 b11 HF hHeld ow11
          simp only [mfC] at hwz' hen t0 t1 t2 t3 t4 t5 t6
          simp only [dcV, unE, mfC]
          go_wp2_with first
            | (go_at_call 13; refine (num_any _ _).mono ?_; rintro e w' ⟨rfl, rfl⟩)
            | (go_at_call 10; refine hen.mono ?_; clear hen; rintro e w12 ⟨rfl, b12⟩; have FN2 := Hid.mk (chain FN.out b12 (Nat.le_refl _)); clear b12)
          go_ret
          exact ⟨rfl, FN2.out⟩
      · go_simp
        refine hK.out _ _ ?_ (fun hHeld => ?_)
        · exact HS.out.2.2.1 _ _
        clear hK K
        refine wpAnyH_ready (rs := [16]) (by kernel_rfl) (by simp) ?_
        refine AllReadyH.cons rfl (fun K hK => ?_) AllReadyH.nil
        go_simp
        go_wp2_with (go_at_call 11; refine (cd3 _ _ _ _ (X9.out.lat (HS.out.2.2.1 _ _))).mono ?_; rintro e w10 ⟨l10, c10, rfl, -, -, b10⟩; have H10 := Hid.mk (chain (HS.out.2.2.1 _ _) b10 (Nat.le_refl _)); simp only [mfC]; obtain ⟨z0, z1, z2, z3, z4, z5, z6, zf⟩ := zr_cells (HS.out.2.2.2.1 _ _ b10); clear b10)
        refine hK.out _ _ ?_ (fun hHeld => ?_)
        · exact H10.out
        clear hK K
        refine wpAnyH_take (i := 17) (oi := { dst := some 70, op := Op.move (Operand.tmp 87), type := 31, pos := "outright.go:55", after := #[{ on := 16, ground := Ground.data }], guard := none }) (v := ?v19) rfl (by kernel_rfl) (by kernel_rfl) (by kernel_rfl) (fun _ _ _ h => h) (Or.inl ⟨by rfl, ?h19⟩) (by assumption) ?r19
        case h19 => (intro w0 hSw; (try dsimp only at hSw); go_simp; first | done | (with_reducible rfl) | (rw [if_neg (by omega)]; try (with_reducible rfl)))
        simp only [Act.put, List.setIfInBounds_toArray, List.set_cons_zero, List.set_cons_succ]
        refine wpAnyH_take (i := 18) (oi := { dst := some 88, op := Op.extract (Operand.tmp 70) 0, type := 26, pos := "outright.go:55", after := #[{ on := 17, ground := Ground.data }], guard := none }) (v := ?v20) rfl (by kernel_rfl) (by kernel_rfl) (by kernel_rfl) (fun _ _ _ h => h) (Or.inl ⟨by rfl, ?h20⟩) (by assumption) ?r20
        case h20 => (intro w0 hSw; (try dsimp only at hSw); go_simp; first | done | (with_reducible rfl) | (rw [if_neg (by omega)]; try (with_reducible rfl)))
        simp only [Act.put, List.setIfInBounds_toArray, List.set_cons_zero, List.set_cons_succ]
        refine wpAnyH_take (i := 19) (oi := { dst := some 89, op := Op.extract (Operand.tmp 70) 1, type := 28, pos := "outright.go:55", after := #[{ on := 17, ground := Ground.data }, { on := 21, ground := Ground.gcOnly Departure.lateStores }], guard := none }) (v := ?v21) rfl (by kernel_rfl) (by kernel_rfl) (by kernel_rfl) (fun _ _ _ h => h) (Or.inl ⟨by rfl, ?h21⟩) (by assumption) ?r21
        case h21 => (intro w0 hSw; (try dsimp only at hSw); go_simp; first | done | (with_reducible rfl) | (rw [if_neg (by omega)]; try (with_reducible rfl)))
        simp only [Act.put, List.setIfInBounds_toArray, List.set_cons_zero, List.set_cons_succ]
        have hbx : wzw8.heap.size ≤ wzw8.heap.size + 1 := Nat.le_succ _
        refine wpAnyH_ready (rs := [21]) (by kernel_rfl) (by simp) ?_
        refine AllReadyH.cons rfl (fun K hK => ?_) AllReadyH.nil
        go_simp
        refine hK.out _ _ ?_ (fun hHeld => ?_)
        · exact ((((((H10.out.setCell hbx _).setCell hbx _).setCell hbx _).setCell hbx _).setCell hbx _).setCell hbx _).setCell hbx _
        clear hK K
        refine wpAnyH_take (i := 22) (oi := { dst := some 21, op := Op.assign (Operand.tmp 89), type := 28, pos := "outright.go:55", after := #[{ on := 19, ground := Ground.data }, { on := 21, ground := Ground.chain }, { on := 0, ground := Ground.phase }, { on := 1, ground := Ground.phase }, { on := 2, ground := Ground.phase }, { on := 3, ground := Ground.phase }, { on := 4, ground := Ground.phase }, { on := 5, ground := Ground.phase }, { on := 6, ground := Ground.phase }, { on := 7, ground := Ground.phase }, { on := 8, ground := Ground.phase }, { on := 9, ground := Ground.phase }, { on := 10, ground := Ground.phase }, { on := 11, ground := Ground.phase }, { on := 12, ground := Ground.phase }, { on := 13, ground := Ground.phase }, { on := 14, ground := Ground.phase }, { on := 15, ground := Ground.phase }, { on := 16, ground := Ground.phase }, { on := 17, ground := Ground.phase }, { on := 18, ground := Ground.phase }, { on := 19, ground := Ground.phase }, { on := 20, ground := Ground.phase }, { on := 21, ground := Ground.phase }], guard := none }) (v := ?v22) rfl (by kernel_rfl) (by kernel_rfl) (by kernel_rfl) (fun _ _ _ h => h) (Or.inl ⟨by rfl, ?h22⟩) (by assumption) ?r22
        case h22 => (intro w0 hSw; (try dsimp only at hSw); go_simp; first | done | (with_reducible rfl) | (rw [if_neg (by omega)]; try (with_reducible rfl)))
        simp only [Act.put, List.setIfInBounds_toArray, List.set_cons_zero, List.set_cons_succ]
        refine wpAnyH_done (by kernel_rfl) ?_ _
        have HF := Hid.mk (X9.out.lat hHeld)
        have hq1 : (e1 == 0) = false := by simpa using he1
        have hdb := CDB.out _ _ _ _ HF.out
        clear CDB cd3
        cases hX : dcM b with
        | error e =>
          have hne := dec_err hX
          rw [hX] at hdb
          have hq2 : (e == 0) = false := by simpa using hne
          have hq3 : (e != 0) = true := by simpa using hne
          clear hX hne
          go_wp2_with first
            | (go_at_call 13; refine (num_any _ _).mono ?_; rintro e w' ⟨rfl, rfl⟩)
          refine hdb.mono ?_
          clear hdb
          rintro r w11 ⟨l11, c11, rfl, -, -, b11⟩
          have K11 := HF.out.lat b11
          obtain ⟨wz, hwz⟩ : ∃ wz, wz = w11.alloc (.cells (mfC mz l11 c11).toArray 26) := ⟨_, rfl⟩
          have bz : Below w11.heap.size w11 wz := by rw [hwz]; exact (Below.refl _ w11).alloc (Nat.le_refl _) _
          have SZ : SAt wz w11.heap.size (mfC mz l11 c11) := by rw [hwz]; exact SAt.new w11 _ _
          obtain ⟨t0, t1, t2, t3, t4, t5, t6⟩ := SZ.cs
          have hsm := same_eq mz l11 none c11 0 wz ⟨fun h => absurd rfl h⟩ ⟨fun h => absurd rfl h⟩ (Nat.zero_le _) (Nat.zero_le _) (by decide)
          have hwz' := hwz.symm
          have FN := Hid.mk (chain K11.bw bz (Nat.le_refl _))
          clear hwz SZ bz K11 b11 HF hHeld
          simp only [mfC, mz, List.length_nil] at hwz' hsm t0 t1 t2 t3 t4 t5 t6
          simp only [dcV, unE, mfC, mz, List.length_nil]
          go_wp2_with first
            | (go_at_call 13; refine (num_any _ _).mono ?_; rintro e w' ⟨rfl, rfl⟩)
            | (go_at_call 12; refine hsm.mono ?_; clear hsm; rintro e w12 ⟨rfl, b12⟩; have FN2 := Hid.mk (chain FN.out b12 (Nat.le_refl _)); clear b12)
          go_ret
          exact ⟨rfl, FN2.out⟩
        | ok z =>
          obtain ⟨hz0, hbz⟩ := dec_only hX
          rw [hX] at hdb
          have HZ := Hid.mk (And.intro hz0 hbz)
          clear hX hz0 hbz
          go_wp2_with first
            | (go_at_call 13; refine (num_any _ _).mono ?_; rintro e w' ⟨rfl, rfl⟩)
          refine hdb.mono ?_
          clear hdb
          rintro r w11 ⟨l11, c11, rfl, ow11, -, b11⟩
          have K11 := HF.out.lat b11
          obtain ⟨wz, hwz⟩ : ∃ wz, wz = w11.alloc (.cells (mfC z l11 c11).toArray 26) := ⟨_, rfl⟩
          have KZ : TB w z l11 c11 w11.heap.size wz := by rw [hwz]; exact TB.new ow11 K11.tab K11.pos K11.bw
          obtain ⟨t0, t1, t2, t3, t4, t5, t6⟩ := KZ.sm.cs
          have hen := encode_any z l11 c11 wz KZ.la (mfw_of HZ.out.1) KZ.cap (by have := (goes_of HZ.out.1).len; omega) KZ.tab KZ.pos
          rw [← HZ.out.2, HZ.out.1] at hen
          have hwz' := hwz.symm
          have FN := Hid.mk KZ.bw
          clear hwz KZ K11 b11 HF hHeld ow11
          simp only [mfC] at hwz' hen t0 t1 t2 t3 t4 t5 t6
          simp only [dcV, unE, mfC]
          go_wp2_with first
            | (go_at_call 13; refine (num_any _ _).mono ?_; rintro e w' ⟨rfl, rfl⟩)
            | (go_at_call 10; refine hen.mono ?_; clear hen; rintro e w12 ⟨rfl, b12⟩; have FN2 := Hid.mk (chain FN.out b12 (Nat.le_refl _)); clear b12)
          go_ret
          exact ⟨rfl, FN2.out⟩
    · go_simp
      refine hK.out _ _ ?_ (fun hHeld => ?_)
      · exact HS.out.2.2.1 _ _
      clear hK K
      refine wpAnyH_ready (rs := [9]) (by kernel_rfl) (by simp) ?_
      refine AllReadyH.cons rfl (fun K hK => ?_) AllReadyH.nil
      go_simp
      refine hK.out _ _ ?_ (fun hHeld => ?_)
      · exact HS.out.2.2.1 _ _
      clear hK K
      refine wpAnyH_take (i := 10) (oi := { dst := some 81, op := Op.binOp BinOp.add 9 (Operand.tmp 73) (Operand.tmp 80) 9, type := 9, pos := "outright.go:55", after := #[{ on := 2, ground := Ground.data }, { on := 9, ground := Ground.data }], guard := none }) (v := ?v23) rfl (by kernel_rfl) (by kernel_rfl) (by kernel_rfl) (fun _ _ _ h => h) (Or.inl ⟨by rfl, ?h23⟩) (by assumption) ?r23
      case h23 => (intro w0 hSw; (try dsimp only at hSw); go_simp; first | done | (with_reducible rfl) | (rw [if_neg (by omega)]; try (with_reducible rfl)))
      simp only [Act.put, List.setIfInBounds_toArray, List.set_cons_zero, List.set_cons_succ]
      refine wpAnyH_take (i := 15) (oi := { dst := some 86, op := Op.binOp BinOp.add 9 (Operand.tmp 81) (Operand.tmp 85) 9, type := 9, pos := "outright.go:55", after := #[{ on := 10, ground := Ground.data }, { on := 14, ground := Ground.data }], guard := none }) (v := ?v24) rfl (by kernel_rfl) (by kernel_rfl) (by kernel_rfl) (fun _ _ _ h => h) (Or.inl ⟨by rfl, ?h24⟩) (by assumption) ?r24
      case h24 => (intro w0 hSw; (try dsimp only at hSw); go_simp; first | done | (with_reducible rfl) | (rw [if_neg (by omega)]; try (with_reducible rfl)))
      simp only [Act.put, List.setIfInBounds_toArray, List.set_cons_zero, List.set_cons_succ]
      refine wpAnyH_ready (rs := [16]) (by kernel_rfl) (by simp) ?_
      refine AllReadyH.cons rfl (fun K hK => ?_) AllReadyH.nil
      go_simp
      go_wp2_with (go_at_call 11; refine (cd3 _ _ _ _ (X9.out.lat (HS.out.2.2.1 _ _))).mono ?_; rintro e w10 ⟨l10, c10, rfl, -, -, b10⟩; have H10 := Hid.mk (chain (HS.out.2.2.1 _ _) b10 (Nat.le_refl _)); simp only [mfC]; obtain ⟨z0, z1, z2, z3, z4, z5, z6, zf⟩ := zr_cells (HS.out.2.2.2.1 _ _ b10); clear b10)
      refine hK.out _ _ ?_ (fun hHeld => ?_)
      · exact H10.out
      clear hK K
      refine wpAnyH_take (i := 17) (oi := { dst := some 70, op := Op.move (Operand.tmp 87), type := 31, pos := "outright.go:55", after := #[{ on := 16, ground := Ground.data }], guard := none }) (v := ?v25) rfl (by kernel_rfl) (by kernel_rfl) (by kernel_rfl) (fun _ _ _ h => h) (Or.inl ⟨by rfl, ?h25⟩) (by assumption) ?r25
      case h25 => (intro w0 hSw; (try dsimp only at hSw); go_simp; first | done | (with_reducible rfl) | (rw [if_neg (by omega)]; try (with_reducible rfl)))
      simp only [Act.put, List.setIfInBounds_toArray, List.set_cons_zero, List.set_cons_succ]
      refine wpAnyH_take (i := 18) (oi := { dst := some 88, op := Op.extract (Operand.tmp 70) 0, type := 26, pos := "outright.go:55", after := #[{ on := 17, ground := Ground.data }], guard := none }) (v := ?v26) rfl (by kernel_rfl) (by kernel_rfl) (by kernel_rfl) (fun _ _ _ h => h) (Or.inl ⟨by rfl, ?h26⟩) (by assumption) ?r26
      case h26 => (intro w0 hSw; (try dsimp only at hSw); go_simp; first | done | (with_reducible rfl) | (rw [if_neg (by omega)]; try (with_reducible rfl)))
      simp only [Act.put, List.setIfInBounds_toArray, List.set_cons_zero, List.set_cons_succ]
      refine wpAnyH_take (i := 19) (oi := { dst := some 89, op := Op.extract (Operand.tmp 70) 1, type := 28, pos := "outright.go:55", after := #[{ on := 17, ground := Ground.data }, { on := 21, ground := Ground.gcOnly Departure.lateStores }], guard := none }) (v := ?v27) rfl (by kernel_rfl) (by kernel_rfl) (by kernel_rfl) (fun _ _ _ h => h) (Or.inl ⟨by rfl, ?h27⟩) (by assumption) ?r27
      case h27 => (intro w0 hSw; (try dsimp only at hSw); go_simp; first | done | (with_reducible rfl) | (rw [if_neg (by omega)]; try (with_reducible rfl)))
      simp only [Act.put, List.setIfInBounds_toArray, List.set_cons_zero, List.set_cons_succ]
      have hbx : wzw8.heap.size ≤ wzw8.heap.size + 1 := Nat.le_succ _
      refine wpAnyH_ready (rs := [21]) (by kernel_rfl) (by simp) ?_
      refine AllReadyH.cons rfl (fun K hK => ?_) AllReadyH.nil
      go_simp
      refine hK.out _ _ ?_ (fun hHeld => ?_)
      · exact ((((((H10.out.setCell hbx _).setCell hbx _).setCell hbx _).setCell hbx _).setCell hbx _).setCell hbx _).setCell hbx _
      clear hK K
      refine wpAnyH_take (i := 22) (oi := { dst := some 21, op := Op.assign (Operand.tmp 89), type := 28, pos := "outright.go:55", after := #[{ on := 19, ground := Ground.data }, { on := 21, ground := Ground.chain }, { on := 0, ground := Ground.phase }, { on := 1, ground := Ground.phase }, { on := 2, ground := Ground.phase }, { on := 3, ground := Ground.phase }, { on := 4, ground := Ground.phase }, { on := 5, ground := Ground.phase }, { on := 6, ground := Ground.phase }, { on := 7, ground := Ground.phase }, { on := 8, ground := Ground.phase }, { on := 9, ground := Ground.phase }, { on := 10, ground := Ground.phase }, { on := 11, ground := Ground.phase }, { on := 12, ground := Ground.phase }, { on := 13, ground := Ground.phase }, { on := 14, ground := Ground.phase }, { on := 15, ground := Ground.phase }, { on := 16, ground := Ground.phase }, { on := 17, ground := Ground.phase }, { on := 18, ground := Ground.phase }, { on := 19, ground := Ground.phase }, { on := 20, ground := Ground.phase }, { on := 21, ground := Ground.phase }], guard := none }) (v := ?v28) rfl (by kernel_rfl) (by kernel_rfl) (by kernel_rfl) (fun _ _ _ h => h) (Or.inl ⟨by rfl, ?h28⟩) (by assumption) ?r28
      case h28 => (intro w0 hSw; (try dsimp only at hSw); go_simp; first | done | (with_reducible rfl) | (rw [if_neg (by omega)]; try (with_reducible rfl)))
      simp only [Act.put, List.setIfInBounds_toArray, List.set_cons_zero, List.set_cons_succ]
      refine wpAnyH_done (by kernel_rfl) ?_ _
      have HF := Hid.mk (X9.out.lat hHeld)
      have hq1 : (e1 == 0) = false := by simpa using he1
      have hdb := CDB.out _ _ _ _ HF.out
      clear CDB cd3
      cases hX : dcM b with
      | error e =>
        have hne := dec_err hX
        rw [hX] at hdb
        have hq2 : (e == 0) = false := by simpa using hne
        have hq3 : (e != 0) = true := by simpa using hne
        clear hX hne
        go_wp2_with first
          | (go_at_call 13; refine (num_any _ _).mono ?_; rintro e w' ⟨rfl, rfl⟩)
        refine hdb.mono ?_
        clear hdb
        rintro r w11 ⟨l11, c11, rfl, -, -, b11⟩
        have K11 := HF.out.lat b11
        obtain ⟨wz, hwz⟩ : ∃ wz, wz = w11.alloc (.cells (mfC mz l11 c11).toArray 26) := ⟨_, rfl⟩
        have bz : Below w11.heap.size w11 wz := by rw [hwz]; exact (Below.refl _ w11).alloc (Nat.le_refl _) _
        have SZ : SAt wz w11.heap.size (mfC mz l11 c11) := by rw [hwz]; exact SAt.new w11 _ _
        obtain ⟨t0, t1, t2, t3, t4, t5, t6⟩ := SZ.cs
        have hsm := same_eq mz l11 none c11 0 wz ⟨fun h => absurd rfl h⟩ ⟨fun h => absurd rfl h⟩ (Nat.zero_le _) (Nat.zero_le _) (by decide)
        have hwz' := hwz.symm
        have FN := Hid.mk (chain K11.bw bz (Nat.le_refl _))
        clear hwz SZ bz K11 b11 HF hHeld
        simp only [mfC, mz, List.length_nil] at hwz' hsm t0 t1 t2 t3 t4 t5 t6
        simp only [dcV, unE, mfC, mz, List.length_nil]
        go_wp2_with first
          | (go_at_call 13; refine (num_any _ _).mono ?_; rintro e w' ⟨rfl, rfl⟩)
          | (go_at_call 12; refine hsm.mono ?_; clear hsm; rintro e w12 ⟨rfl, b12⟩; have FN2 := Hid.mk (chain FN.out b12 (Nat.le_refl _)); clear b12)
        go_ret
        exact ⟨rfl, FN2.out⟩
      | ok z =>
        obtain ⟨hz0, hbz⟩ := dec_only hX
        rw [hX] at hdb
        have HZ := Hid.mk (And.intro hz0 hbz)
        clear hX hz0 hbz
        go_wp2_with first
          | (go_at_call 13; refine (num_any _ _).mono ?_; rintro e w' ⟨rfl, rfl⟩)
        refine hdb.mono ?_
        clear hdb
        rintro r w11 ⟨l11, c11, rfl, ow11, -, b11⟩
        have K11 := HF.out.lat b11
        obtain ⟨wz, hwz⟩ : ∃ wz, wz = w11.alloc (.cells (mfC z l11 c11).toArray 26) := ⟨_, rfl⟩
        have KZ : TB w z l11 c11 w11.heap.size wz := by rw [hwz]; exact TB.new ow11 K11.tab K11.pos K11.bw
        obtain ⟨t0, t1, t2, t3, t4, t5, t6⟩ := KZ.sm.cs
        have hen := encode_any z l11 c11 wz KZ.la (mfw_of HZ.out.1) KZ.cap (by have := (goes_of HZ.out.1).len; omega) KZ.tab KZ.pos
        rw [← HZ.out.2, HZ.out.1] at hen
        have hwz' := hwz.symm
        have FN := Hid.mk KZ.bw
        clear hwz KZ K11 b11 HF hHeld ow11
        simp only [mfC] at hwz' hen t0 t1 t2 t3 t4 t5 t6
        simp only [dcV, unE, mfC]
        go_wp2_with first
          | (go_at_call 13; refine (num_any _ _).mono ?_; rintro e w' ⟨rfl, rfl⟩)
          | (go_at_call 10; refine hen.mono ?_; clear hen; rintro e w12 ⟨rfl, b12⟩; have FN2 := Hid.mk (chain FN.out b12 (Nat.le_refl _)); clear b12)
        go_ret
        exact ⟨rfl, FN2.out⟩
  · go_simp
    refine hK.out _ _ ?_ (fun hHeld => ?_)
    · exact HS.out.2.1 _
    clear hK K
    refine wpAnyH_ready (rs := [8]) (by kernel_rfl) (by simp) ?_
    refine AllReadyH.cons rfl (fun K hK => ?_) AllReadyH.nil
    go_simp
    refine hK.out _ _ ?_ (fun hHeld => ?_)
    · exact HS.out.2.2.1 _ _
    clear hK K
    refine wpAnyH_ready (rs := [9]) (by kernel_rfl) (by simp) ?_
    refine AllReadyH.cons rfl (fun K hK => ?_) AllReadyH.nil
    go_simp
    refine hK.out _ _ ?_ (fun hHeld => ?_)
    · exact HS.out.2.2.1 _ _
    clear hK K
    refine wpAnyH_take (i := 10) (oi := { dst := some 81, op := Op.binOp BinOp.add 9 (Operand.tmp 73) (Operand.tmp 80) 9, type := 9, pos := "outright.go:55", after := #[{ on := 2, ground := Ground.data }, { on := 9, ground := Ground.data }], guard := none }) (v := ?v29) rfl (by kernel_rfl) (by kernel_rfl) (by kernel_rfl) (fun _ _ _ h => h) (Or.inl ⟨by rfl, ?h29⟩) (by assumption) ?r29
    case h29 => (intro w0 hSw; (try dsimp only at hSw); go_simp; first | done | (with_reducible rfl) | (rw [if_neg (by omega)]; try (with_reducible rfl)))
    simp only [Act.put, List.setIfInBounds_toArray, List.set_cons_zero, List.set_cons_succ]
    refine wpAnyH_take (i := 15) (oi := { dst := some 86, op := Op.binOp BinOp.add 9 (Operand.tmp 81) (Operand.tmp 85) 9, type := 9, pos := "outright.go:55", after := #[{ on := 10, ground := Ground.data }, { on := 14, ground := Ground.data }], guard := none }) (v := ?v30) rfl (by kernel_rfl) (by kernel_rfl) (by kernel_rfl) (fun _ _ _ h => h) (Or.inl ⟨by rfl, ?h30⟩) (by assumption) ?r30
    case h30 => (intro w0 hSw; (try dsimp only at hSw); go_simp; first | done | (with_reducible rfl) | (rw [if_neg (by omega)]; try (with_reducible rfl)))
    simp only [Act.put, List.setIfInBounds_toArray, List.set_cons_zero, List.set_cons_succ]
    refine wpAnyH_ready (rs := [16]) (by kernel_rfl) (by simp) ?_
    refine AllReadyH.cons rfl (fun K hK => ?_) AllReadyH.nil
    go_simp
    go_wp2_with (go_at_call 11; refine (cd3 _ _ _ _ (X9.out.lat (HS.out.2.2.1 _ _))).mono ?_; rintro e w10 ⟨l10, c10, rfl, -, -, b10⟩; have H10 := Hid.mk (chain (HS.out.2.2.1 _ _) b10 (Nat.le_refl _)); simp only [mfC]; obtain ⟨z0, z1, z2, z3, z4, z5, z6, zf⟩ := zr_cells (HS.out.2.2.2.2 _ _ b10); clear b10)
    refine hK.out _ _ ?_ (fun hHeld => ?_)
    · exact H10.out
    clear hK K
    refine wpAnyH_take (i := 17) (oi := { dst := some 70, op := Op.move (Operand.tmp 87), type := 31, pos := "outright.go:55", after := #[{ on := 16, ground := Ground.data }], guard := none }) (v := ?v31) rfl (by kernel_rfl) (by kernel_rfl) (by kernel_rfl) (fun _ _ _ h => h) (Or.inl ⟨by rfl, ?h31⟩) (by assumption) ?r31
    case h31 => (intro w0 hSw; (try dsimp only at hSw); go_simp; first | done | (with_reducible rfl) | (rw [if_neg (by omega)]; try (with_reducible rfl)))
    simp only [Act.put, List.setIfInBounds_toArray, List.set_cons_zero, List.set_cons_succ]
    refine wpAnyH_take (i := 18) (oi := { dst := some 88, op := Op.extract (Operand.tmp 70) 0, type := 26, pos := "outright.go:55", after := #[{ on := 17, ground := Ground.data }], guard := none }) (v := ?v32) rfl (by kernel_rfl) (by kernel_rfl) (by kernel_rfl) (fun _ _ _ h => h) (Or.inl ⟨by rfl, ?h32⟩) (by assumption) ?r32
    case h32 => (intro w0 hSw; (try dsimp only at hSw); go_simp; first | done | (with_reducible rfl) | (rw [if_neg (by omega)]; try (with_reducible rfl)))
    simp only [Act.put, List.setIfInBounds_toArray, List.set_cons_zero, List.set_cons_succ]
    refine wpAnyH_take (i := 19) (oi := { dst := some 89, op := Op.extract (Operand.tmp 70) 1, type := 28, pos := "outright.go:55", after := #[{ on := 17, ground := Ground.data }, { on := 21, ground := Ground.gcOnly Departure.lateStores }], guard := none }) (v := ?v33) rfl (by kernel_rfl) (by kernel_rfl) (by kernel_rfl) (fun _ _ _ h => h) (Or.inl ⟨by rfl, ?h33⟩) (by assumption) ?r33
    case h33 => (intro w0 hSw; (try dsimp only at hSw); go_simp; first | done | (with_reducible rfl) | (rw [if_neg (by omega)]; try (with_reducible rfl)))
    simp only [Act.put, List.setIfInBounds_toArray, List.set_cons_zero, List.set_cons_succ]
    have hbx : wzw8.heap.size ≤ wzw8.heap.size := Nat.le_refl _
    refine wpAnyH_ready (rs := [21]) (by kernel_rfl) (by simp) ?_
    refine AllReadyH.cons rfl (fun K hK => ?_) AllReadyH.nil
    go_simp
    refine hK.out _ _ ?_ (fun hHeld => ?_)
    · exact ((((((H10.out.setCell hbx _).setCell hbx _).setCell hbx _).setCell hbx _).setCell hbx _).setCell hbx _).setCell hbx _
    clear hK K
    refine wpAnyH_take (i := 22) (oi := { dst := some 21, op := Op.assign (Operand.tmp 89), type := 28, pos := "outright.go:55", after := #[{ on := 19, ground := Ground.data }, { on := 21, ground := Ground.chain }, { on := 0, ground := Ground.phase }, { on := 1, ground := Ground.phase }, { on := 2, ground := Ground.phase }, { on := 3, ground := Ground.phase }, { on := 4, ground := Ground.phase }, { on := 5, ground := Ground.phase }, { on := 6, ground := Ground.phase }, { on := 7, ground := Ground.phase }, { on := 8, ground := Ground.phase }, { on := 9, ground := Ground.phase }, { on := 10, ground := Ground.phase }, { on := 11, ground := Ground.phase }, { on := 12, ground := Ground.phase }, { on := 13, ground := Ground.phase }, { on := 14, ground := Ground.phase }, { on := 15, ground := Ground.phase }, { on := 16, ground := Ground.phase }, { on := 17, ground := Ground.phase }, { on := 18, ground := Ground.phase }, { on := 19, ground := Ground.phase }, { on := 20, ground := Ground.phase }, { on := 21, ground := Ground.phase }], guard := none }) (v := ?v34) rfl (by kernel_rfl) (by kernel_rfl) (by kernel_rfl) (fun _ _ _ h => h) (Or.inl ⟨by rfl, ?h34⟩) (by assumption) ?r34
    case h34 => (intro w0 hSw; (try dsimp only at hSw); go_simp; first | done | (with_reducible rfl) | (rw [if_neg (by omega)]; try (with_reducible rfl)))
    simp only [Act.put, List.setIfInBounds_toArray, List.set_cons_zero, List.set_cons_succ]
    refine wpAnyH_done (by kernel_rfl) ?_ _
    have HF := Hid.mk (X9.out.lat hHeld)
    have hq1 : (e1 == 0) = false := by simpa using he1
    have hdb := CDB.out _ _ _ _ HF.out
    clear CDB cd3
    cases hX : dcM b with
    | error e =>
      have hne := dec_err hX
      rw [hX] at hdb
      have hq2 : (e == 0) = false := by simpa using hne
      have hq3 : (e != 0) = true := by simpa using hne
      clear hX hne
      go_wp2_with first
        | (go_at_call 13; refine (num_any _ _).mono ?_; rintro e w' ⟨rfl, rfl⟩)
      refine hdb.mono ?_
      clear hdb
      rintro r w11 ⟨l11, c11, rfl, -, -, b11⟩
      have K11 := HF.out.lat b11
      obtain ⟨wz, hwz⟩ : ∃ wz, wz = w11.alloc (.cells (mfC mz l11 c11).toArray 26) := ⟨_, rfl⟩
      have bz : Below w11.heap.size w11 wz := by rw [hwz]; exact (Below.refl _ w11).alloc (Nat.le_refl _) _
      have SZ : SAt wz w11.heap.size (mfC mz l11 c11) := by rw [hwz]; exact SAt.new w11 _ _
      obtain ⟨t0, t1, t2, t3, t4, t5, t6⟩ := SZ.cs
      have hsm := same_eq mz l11 none c11 0 wz ⟨fun h => absurd rfl h⟩ ⟨fun h => absurd rfl h⟩ (Nat.zero_le _) (Nat.zero_le _) (by decide)
      have hwz' := hwz.symm
      have FN := Hid.mk (chain K11.bw bz (Nat.le_refl _))
      clear hwz SZ bz K11 b11 HF hHeld
      simp only [mfC, mz, List.length_nil] at hwz' hsm t0 t1 t2 t3 t4 t5 t6
      simp only [dcV, unE, mfC, mz, List.length_nil]
      go_wp2_with first
        | (go_at_call 13; refine (num_any _ _).mono ?_; rintro e w' ⟨rfl, rfl⟩)
        | (go_at_call 12; refine hsm.mono ?_; clear hsm; rintro e w12 ⟨rfl, b12⟩; have FN2 := Hid.mk (chain FN.out b12 (Nat.le_refl _)); clear b12)
      go_ret
      exact ⟨rfl, FN2.out⟩
    | ok z =>
      obtain ⟨hz0, hbz⟩ := dec_only hX
      rw [hX] at hdb
      have HZ := Hid.mk (And.intro hz0 hbz)
      clear hX hz0 hbz
      go_wp2_with first
        | (go_at_call 13; refine (num_any _ _).mono ?_; rintro e w' ⟨rfl, rfl⟩)
      refine hdb.mono ?_
      clear hdb
      rintro r w11 ⟨l11, c11, rfl, ow11, -, b11⟩
      have K11 := HF.out.lat b11
      obtain ⟨wz, hwz⟩ : ∃ wz, wz = w11.alloc (.cells (mfC z l11 c11).toArray 26) := ⟨_, rfl⟩
      have KZ : TB w z l11 c11 w11.heap.size wz := by rw [hwz]; exact TB.new ow11 K11.tab K11.pos K11.bw
      obtain ⟨t0, t1, t2, t3, t4, t5, t6⟩ := KZ.sm.cs
      have hen := encode_any z l11 c11 wz KZ.la (mfw_of HZ.out.1) KZ.cap (by have := (goes_of HZ.out.1).len; omega) KZ.tab KZ.pos
      rw [← HZ.out.2, HZ.out.1] at hen
      have hwz' := hwz.symm
      have FN := Hid.mk KZ.bw
      clear hwz KZ K11 b11 HF hHeld ow11
      simp only [mfC] at hwz' hen t0 t1 t2 t3 t4 t5 t6
      simp only [dcV, unE, mfC]
      go_wp2_with first
        | (go_at_call 13; refine (num_any _ _).mono ?_; rintro e w' ⟨rfl, rfl⟩)
        | (go_at_call 10; refine hen.mono ?_; clear hen; rintro e w12 ⟨rfl, b12⟩; have FN2 := Hid.mk (chain FN.out b12 (Nat.le_refl _)); clear b12)
      go_ret
      exact ⟨rfl, FN2.out⟩
end Go.Proofs.YtibjneoiombbfaaDoor
set_option linter.unusedVariables false
set_option linter.unusedSimpArgs false
namespace Go.Proofs.YtibjneoiombbfaaDoor
open Go.ChangeMaps (open_string shut_string)
open Go.ChangeShapes Go.WideShapes Go.ChangeAt Go.WideMaps Go.WideElems Go.RowKit Go.Proofs.SealMath
set_option maxRecDepth 100000 in
theorem back_lifted (os : Os) (started : os.Started) (H : Type) (enc : TypeId × Value → H) :
    ReturnsInHanded {} Tryd.checked os 3 .any (fun w args => (Rows.manifestBackSpec.pre enc Tryd.prog Tryd.f3 [] false w args ∧ laidMetH Tryd.prog lst w) ∧ sizedMet enc Tryd.prog Tryd.f3 (OpenSpec.ofChange Rows.manifestBackSpec) false w args)
      (Rows.manifestBackSpec.post enc Tryd.prog Tryd.f3 false true false false) := by
  refine returnsInHanded_of_change_and (C := Tryd.checked) (X := fun w _ => laidMetH Tryd.prog lst w) (fun _ _ _ hh h => h.of_heap hh) own started (by kernel_rfl) Tryd.func3
    (ChangeSpec.witness_shaped (enc := enc) (C := Tryd.checked) (os := os) (X := fun w _ => laidMetH Tryd.prog lst w) false (World.doorLaid Tryd.prog 4000 os) #[.agg #[.int .i64 0, .int .i64 0, .int .i64 0, .int .i64 0, .int .i64 0, .int .i64 0, .slice none 0 0], .string ⟨#[]⟩, .int .i64 0, .int .u8 0] 8 rfl (World.shaped_of_RefB (by kernel_rfl) (by kernel_rfl)) (by kernel_rfl) (by kernel_rfl) (by kernel_rfl) (door_met os _)) ?_
  intro W base args ds gs before hval0 hW _ hsz0 hL _
  have hsz : (DataW.weightsEach Tryd.prog (Tryd.f3.params.toList ++ Rows.manifestBackSpec.plain.varTypes Tryd.prog) (ds ++ gs)).all (· ≤ reachBytes) = true := hsz0
  clear hsz0
  have hval : ∀ (j : Nat) t v, Tryd.f3.params[j]? = some t → args[j]? = some v → Value.okWide Tryd.prog W .any base t v := hval0
  have hW' := hW
  obtain ⟨p, q, hA0, hV, rfl, hfz, hnd⟩ := hW
  have hA : DataW.TrodAll enc Tryd.prog W 0 (fun _ => true) true Tryd.f3.params.toList args.toList ds p := hA0
  rw [Tryd.params3] at hA hval hsz
  obtain ⟨v0, v1, v2, v3, d0, d1, d2, d3, p0, p1, p2, p3, rfl, rfl, rfl, h0, h1, h2, h3⟩ := trodAll_four hA
  obtain ⟨rfl, rfl⟩ := trodVars_none hV
  have h0k := h0
  obtain ⟨m, mla, mc, rfl, mL, mW, mC, mD⟩ := open_mf (hval 0 26 v0 rfl rfl) h0
  have sm : (m.rs.length + 1) * 32 ≤ 140737488355328 := by
    rcases mD with h | ⟨x0, x1, x2, x3, elems, sp, hd, hl⟩
    · rw [h]; decide
    · have := List.all_eq_true.1 hsz ((elems.length + sp.length) * Tryd.prog.bytesOf 43) (DataW.weights_mem_each (j := 0) (t := 26) rfl (by rw [hd]; rfl) _ (by simp [DataW.weights, DataW.weightsEach, Tryd.underlying26, Tryd.underlying24]))
      have h2 : (elems.length + sp.length) * Tryd.prog.bytesOf 43 ≤ reachBytes := by simpa using this
      rw [bytesRn] at h2
      have h3 : reachBytes = 140737488351232 := by decide
      omega
  obtain ⟨b, rfl, rfl, rfl, hb⟩ := open_string Tryd.underlying9 (hval 1 9 v1 rfl rfl) h1
  have sb : b.size ≤ 140737488351232 := by
    have := sized_string hsz (j := 1) (t := 9) rfl rfl
    simpa [reachBytes] using this
  obtain ⟨q, rfl, rfl, rfl, wq⟩ := open_int Tryd.underlying3 (hval 2 3 v2 rfl rfl) h2
  obtain ⟨y, rfl, rfl, rfl, wy⟩ := open_int Tryd.underlying5 (hval 3 5 v3 rfl rfl) h3
  clear hA0 hval0
  simp only [List.append_nil, List.nil_append] at hW'
  have hlt0 : ∀ x ∈ p0, x.block < W.heap.size := fun x hx => hW'.lt x (by simp [hx])
  have ht := tab_of hL
  have hg0 := tab_pos ht
  have e1 : Rows.manifestBackSpec.fn H ([d0, .lit (.string b.data.toList), .lit (.int .i64 q), .lit (.int .u8 y)] ++ []) = { results := [.lit (.bool true)], args := [d0, .lit (.string b.data.toList), .lit (.int .i64 q), .lit (.int .u8 y)] } := by simp [Rows.manifestBackSpec]
  have fin : ∀ (e : Ending) (W' : World), (e = .returned (.bool true) ∧ Below W.heap.size W W') → ∃ v, e = .returned v ∧ Rows.manifestBackSpec.post enc Tryd.prog Tryd.f3 false true false false W #[.agg (mfC m mla mc).toArray, .string b, .int .i64 q, .int .u8 y] v W' := by
    rintro e W' ⟨rfl, hbl⟩
    refine ⟨_, rfl, _, _, _, [], p0, [], hW', ?_, ?_, ?_, hbl.frame _, fun h => by cases h⟩
    · rw [e1]; exact trodAll_mk1 (shut_bool Tryd.underlying4 true)
    · rw [e1]; have h5 := trodAll_mk4 (Below.trod laidOut (by kernel_rfl) (of_decide_eq_true (by kernel_rfl)) h0k hbl hlt0) (shut_string Tryd.underlying9 hb) (shut_int Tryd.underlying3 wq) (shut_int Tryd.underlying5 wy); simp only [List.append_nil] at h5; exact h5
    · rw [e1]; rfl
  have g1 := bounds_i64 wq
  have g2 := bounds_u8 wy
  obtain ⟨y8, hy8⟩ : ∃ y8 : UInt8, (y8.toNat : Int) = y := ⟨UInt8.ofNat y.toNat, (by have h8 : (UInt8.ofNat y.toNat).toNat = y.toNat % 256 := (by simp); omega)⟩
  subst hy8
  exact (law_back m mla mc b q y8 W mL mW mC (by omega) (by omega) g1 ht hg0).mono fin

theorem back_row : Rows.ManifestBackSaid :=
  OpenClaim.holds_of_wide 3 Tryd.f3 rfl rfl rfl rfl rfl rfl rfl ⟨rfl, rfl, rfl, rfl, rfl⟩ rfl rfl rfl rfl rfl (by kernel_rfl) Tryd.func3 (by kernel_rfl)
    (of_decide_eq_true (by kernel_rfl)) (by unfold Func.isWrapper; rw [if_neg (of_decide_eq_false (by kernel_rfl))]; exact ⟨rfl, rfl⟩)
    (fun os started H enc _ => back_lifted os started H enc)
theorem back_holds : Rows.ManifestBackCardSaid :=
  Claim7.holds_tied_plain_at .later [] [.called] true (true, "6d13d61a0323edaae1a027ea5df7dd52d8e5d0cf0d2b7f4184a785188a148e64") true
    back_row (fun _ h => by cases h) (by kernel_rfl) (fun _ h => by cases h) manifestBack_row_tie rfl ⟨rfl, rfl⟩ (by kernel_rfl) rfl
    (fun f fn hf hfn => by
      obtain rfl : f = 3 := Option.some.inj ((show Tryd.prog.funcNamed "kindred/kindredlaw8.ManifestBack" = some 3 by kernel_rfl).symm.trans hf) |>.symm
      obtain rfl : fn = Tryd.f3 := (Option.some.inj (Tryd.func3.symm.trans hfn)).symm
      exact ⟨by kernel_rfl, fun j t ht => by
        rw [Tryd.params3] at ht
        have hm : t ∈ [26, 9, 3, 5] := by simpa using Array.mem_of_getElem? ht
        have hall : ([26, 9, 3, 5].all fun u => !Tryd.prog.wantsStandIn u) = true := by kernel_rfl
        exact (show Tryd.prog.wantsStandIn t = false by simpa using List.all_eq_true.1 hall t hm)⟩)
    (by kernel_rfl)
#print axioms back_holds
end Go.Proofs.YtibjneoiombbfaaDoor
