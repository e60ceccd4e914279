/-
  DERIVED. Manifests: there and back.
-/
import Derived.Test.YtejpakejfikkmaaDoorCDec
import Derived.Test.YtejpakejfikkmaaDoorSBurst
set_option linter.unusedVariables false
set_option linter.unusedSimpArgs false
namespace Go.Proofs.YtejpakejfikkmaaDoor
open Go.RowKit Go.Proofs.SealMath
theorem sub_app (b : ByteArray) (x y z : List UInt8) (h : b.data.toList = x ++ y ++ z) : sub b x.length y.length = y := by
  unfold sub; rw [h]; simp
theorem app_place (b : ByteArray) (x y z : List UInt8) (h : b.data.toList = x ++ y ++ z) : x.length + y.length ≤ b.size := by
  have := congrArg List.length h
  rw [nm_size] at this
  simp at this; omega
theorem rd_put (b : ByteArray) (most : Nat) (hm : most ≤ 1152921504606846976) : ∀ (ns : List Nat) (x y : List UInt8), (∀ n ∈ ns, n ≤ most) → b.data.toList = x ++ ns.flatMap pv ++ y → rd b most ns.length x.length = .ok (ns, x.length + (ns.flatMap pv).length)
  | [], x, y, _, _ => rfl
  | n :: ns, x, y, hn, hb => by
    have hb' : b.data.toList = x ++ pv n ++ (ns.flatMap pv ++ y) := by rw [hb]; simp
    have h1 := sub_app b x (pv n) _ hb'
    have h2 := app_place b x (pv n) _ hb'
    have hn0 := hn n (by simp)
    have hv := vA_put b x.length n (by omega) h1 (by omega)
    have hb2 : b.data.toList = (x ++ pv n) ++ ns.flatMap pv ++ y := by rw [hb]; simp
    have ih := rd_put b most hm ns (x ++ pv n) y (fun k hk => hn k (by simp [hk])) hb2
    rw [List.length_append] at ih
    rw [List.length_cons, rd, hv]
    simp only [ne_eq, not_true_eq_false, if_false]
    rw [if_neg (by omega)]
    have e : x.length + (pvL 9 n).length = x.length + (pv n).length := rfl
    rw [e, ih]
    simp [Except.map, Nat.add_assoc]
abbrev Gr (r : Ru) : Prop := (0 ≤ r.num ∧ r.num ≤ 1152921504606846976) ∧ (0 ≤ r.lo ∧ r.lo ≤ 1152921504606846976) ∧ (0 ≤ r.hi ∧ r.hi ≤ 1152921504606846976) ∧ (0 ≤ r.cnt ∧ r.cnt ≤ 1152921504606846976)
theorem ruOf_ruN {r : Ru} (h : Gr r) : ruOf (ruN r) = r := by
  obtain ⟨a, b, c, d⟩ := r
  simp only [Gr] at h
  simp only [ruOf, ruN, List.getD_cons_zero, List.getD_cons_succ]
  congr 1 <;> omega
theorem rdRs_put (b : ByteArray) : ∀ (rs : List Ru) (x y : List UInt8), (∀ r ∈ rs, Gr r) → b.data.toList = x ++ (rs.flatMap ruN).flatMap pv ++ y → rdRs b rs.length x.length = .ok (rs, x.length + ((rs.flatMap ruN).flatMap pv).length)
  | [], x, y, _, _ => rfl
  | r :: rs, x, y, hr, hb => by
    have hb' : b.data.toList = x ++ (ruN r).flatMap pv ++ ((rs.flatMap ruN).flatMap pv ++ y) := by rw [hb]; simp [List.flatMap_append]
    have hg := hr r (by simp)
    have h1 := rd_put b 1152921504606846976 (Nat.le_refl _) (ruN r) x _ (ruN_le hg) hb'
    have hb2 : b.data.toList = (x ++ (ruN r).flatMap pv) ++ (rs.flatMap ruN).flatMap pv ++ y := by rw [hb]; simp [List.flatMap_append]
    have ih := rdRs_put b rs _ y (fun k hk => hr k (by simp [hk])) hb2
    rw [List.length_append] at ih
    rw [show (ruN r).length = 4 from rfl] at h1
    rw [List.length_cons, rdRs, h1]
    simp only
    rw [ih, ruOf_ruN hg]
    simp [Except.map, Nat.add_assoc, List.flatMap_append]
theorem unP_put {m : Mf} (h : Goes m) : unP ⟨(payL m).toArray⟩ = .ok m := by
  have hb : (⟨(payL m).toArray⟩ : ByteArray).data.toList = payL m := rfl
  generalize hB : (⟨(payL m).toArray⟩ : ByteArray) = B at hb
  have hp : payL m = (hdN m).flatMap pv ++ [m.rs.length].flatMap pv ++ (m.rs.flatMap ruN).flatMap pv := by simp [payL]
  rw [hp] at hb
  have e1 := rd_put B 1152921504606846976 (Nat.le_refl _) (hdN m) [] ([m.rs.length].flatMap pv ++ (m.rs.flatMap ruN).flatMap pv) (hdN_le h) (by rw [hb]; simp)
  have e2 := rd_put B 24 (by decide) [m.rs.length] ((hdN m).flatMap pv) ((m.rs.flatMap ruN).flatMap pv) (fun n hn => by simp at hn; rw [hn]; exact h.len) hb
  have e3 := rdRs_put B m.rs ((hdN m).flatMap pv ++ [m.rs.length].flatMap pv) [] h.rs (by rw [hb]; simp)
  rw [show (hdN m).length = 6 from rfl] at e1
  simp only [List.length_nil, Nat.zero_add] at e1
  rw [List.length_append] at e3
  unfold unP
  rw [e1]
  simp only
  rw [show ([m.rs.length] : List Nat).length = 1 from rfl] at e2
  rw [e2]
  simp only [List.getD_cons_zero]
  rw [e3]
  simp only
  rw [if_pos (by rw [← nm_size, hb, List.length_append, List.length_append])]
  have := h.w; have := h.ch; have := h.md; have := h.seq; have := h.nx; have := h.jn
  obtain ⟨a, b, c, d, e, f, rs⟩ := m
  simp only [mfOf, hdN, List.getD_cons_zero, List.getD_cons_succ]
  simp only at *
  congr 1
  congr 1 <;> omega
theorem pay_frame {m : Mf} (h : chE m = 0) : (enT m).data.toList = frL 3 (payL m) := by unfold enT; rw [if_pos h]
theorem dec_enc {m : Mf} (h : chE m = 0) (b : ByteArray) (hb : b = enT m) : dcM b = .ok m := by
  have hG := goes_of h
  have hl := pay_len hG
  have hd : b.data.toList = [] ++ frL 3 (payL m) ++ [] := by rw [hb, pay_frame h]; simp
  have hp := prA_frame b 0 3 (payL m) [] [] (by decide) (by decide) (by omega) hd rfl
  have hz : b.size = (payL m).length + 14 := by rw [← nm_size, hd]; simp [frL_len]
  have hps : psA b 0 = (3, payL m, (payL m).length + 14, 0) := by
    have := hp
    rw [show ((0 : Nat) : Int) = 0 from rfl, prA0] at this
    simpa using this
  unfold dcM dcU
  rw [hps]
  simp only [ne_eq, not_true_eq_false, if_false, hz]
  rw [unP_put hG]
  simp only
  rw [if_pos h]
theorem sub_two (b : ByteArray) (a m n : Nat) (x y : List UInt8) (h1 : sub b a m = x) (h2 : sub b (a + m) n = y) : sub b a (m + n) = x ++ y := by rw [sub_add, h1, h2]
theorem rd_only (b : ByteArray) (most : Nat) : ∀ (n a : Nat) (l : List Nat) (q : Nat), rd b most n a = .ok (l, q) → q = a + (l.flatMap pv).length ∧ sub b a (l.flatMap pv).length = l.flatMap pv
  | 0, a, l, q, h => by simp only [rd] at h; cases h; simp [sub]
  | n + 1, a, l, q, h => by
    simp only [rd] at h
    split at h
    · cases h
    · next he =>
      split at h
      · cases h
      · have hv : vA b a = ((vA b a).1, (vA b a).2.1, 0) := Prod.ext rfl (Prod.ext rfl (Classical.byContradiction he))
        obtain ⟨-, h2, h3, -⟩ := vA_only b a _ _ hv
        cases hr : rd b most n (vA b a).2.1 with
        | error e => rw [hr] at h; cases h
        | ok x =>
          obtain ⟨l', p'⟩ := x
          rw [hr] at h
          simp only [Except.map] at h
          cases h
          obtain ⟨i1, i2⟩ := rd_only b most n _ l' _ hr
          rw [h2] at i1 i2
          have e : (pv (vA b a).1) = pvL 9 (vA b a).1 := rfl
          rw [List.flatMap_cons, List.length_append, e]
          exact ⟨by rw [i1]; omega, sub_two b a _ _ _ _ h3 i2⟩
theorem ruN_ruOf (l : List Nat) (h : l.length = 4) : ruN (ruOf l) = l := by
  match l, h with
  | [a, b, c, d], _ => rfl
theorem rdRs_only (b : ByteArray) : ∀ (n a : Nat) (rs : List Ru) (q : Nat), rdRs b n a = .ok (rs, q) → q = a + ((rs.flatMap ruN).flatMap pv).length ∧ sub b a ((rs.flatMap ruN).flatMap pv).length = (rs.flatMap ruN).flatMap pv
  | 0, a, l, q, h => by simp only [rdRs] at h; cases h; simp [sub]
  | n + 1, a, rs, q, h => by
    simp only [rdRs] at h
    cases hr : rd b 1152921504606846976 4 a with
    | error e => rw [hr] at h; cases h
    | ok x =>
      obtain ⟨l, a'⟩ := x
      rw [hr] at h
      simp only at h
      cases hr2 : rdRs b n a' with
      | error e => rw [hr2] at h; cases h
      | ok y =>
        obtain ⟨rs', q'⟩ := y
        rw [hr2] at h
        simp only [Except.map] at h
        cases h
        obtain ⟨j1, j2⟩ := rd_only b _ _ _ _ _ hr
        obtain ⟨i1, i2⟩ := rdRs_only b n _ rs' _ hr2
        rw [j1] at i1 i2
        rw [List.flatMap_cons, ruN_ruOf l (rd_len hr).1, List.flatMap_append, List.length_append]
        exact ⟨by rw [i1]; omega, sub_two b a _ _ _ _ j2 i2⟩
theorem sub_whole2 (b : ByteArray) : sub b 0 b.size = b.data.toList := by unfold sub; rw [List.drop_zero, List.take_of_length_le (by rw [nm_size]; exact Nat.le_refl _)]
theorem unP_only {p : ByteArray} {m : Mf} (h : unP p = .ok m) : payL m = p.data.toList := by
  unfold unP at h
  cases h1 : rd p 1152921504606846976 6 0 with
  | error e => rw [h1] at h; cases h
  | ok x =>
    obtain ⟨hd, a1⟩ := x
    rw [h1] at h
    simp only at h
    cases h2 : rd p 24 1 a1 with
    | error e => rw [h2] at h; cases h
    | ok y =>
      obtain ⟨c, a2⟩ := y
      rw [h2] at h
      simp only at h
      cases h3 : rdRs p (c.getD 0 0) a2 with
      | error e => rw [h3] at h; cases h
      | ok z =>
        obtain ⟨rs, a3⟩ := z
        rw [h3] at h
        simp only at h
        split at h
        · next hz =>
          injection h with h
          subst h
          obtain ⟨i1, i2⟩ := rd_only p _ _ _ _ _ h1
          obtain ⟨j1, j2⟩ := rd_only p _ _ _ _ _ h2
          obtain ⟨k1, k2⟩ := rdRs_only p _ _ _ _ h3
          rw [Nat.zero_add] at i1
          rw [i1] at j1 j2
          rw [j1] at k1 k2
          have s1 := sub_two p 0 _ _ _ _ i2 (by simp only [Nat.zero_add]; exact j2)
          have s2 := sub_two p 0 _ _ _ _ s1 (by simp only [Nat.zero_add]; exact k2)
          have hl1 := (rd_len h1).1
          have hl2 := (rd_len h2).1
          have hl3 := (rdRs_ok h3).1
          have eh : hdN (mfOf hd rs) = hd := by
            match hd, hl1 with
            | [a, b, c, d, e, f], _ => rfl
          have ec : c = [rs.length] := by
            match c, hl2 with
            | [n], _ => simp only [List.getD_cons_zero] at hl3; rw [hl3]
          have er : (mfOf hd rs).rs = rs := rfl
          have et : payL (mfOf hd rs) = hd.flatMap pv ++ c.flatMap pv ++ (rs.flatMap ruN).flatMap pv := by
            unfold payL; rw [eh, er, ec]; simp
          rw [et, ← s2, ← sub_whole2 p]
          congr 1
          rw [← hz, k1]
        · cases h
theorem dec_only {b : ByteArray} {m : Mf} (h : dcM b = .ok m) : chE m = 0 ∧ b = enT m := by
  unfold dcM at h
  cases hU : dcU b with
  | error e => rw [hU] at h; cases h
  | ok mu =>
    rw [hU] at h
    simp only at h
    split at h
    · next hc =>
      injection h with h
      subst h
      refine ⟨hc, ?_⟩
      unfold dcU at hU
      split at hU
      · cases hU
      · next h1 =>
        split at hU
        · cases hU
        · next h2 =>
          split at hU
          · cases hU
          · next h3 =>
            have hp := unP_only hU
            obtain ⟨k, p, k1, k2, k3, k4, k5, k6⟩ := psA_yes b 0 (Classical.byContradiction h1)
            rw [k5] at h2 h3 hp
            simp only [ne_eq, Classical.not_not] at h2 h3 hp
            apply ba_ext
            rw [pay_frame hc, hp, ← h3, ← k6, ← sub_whole2 b]
            congr 1
            omega
    · cases h
/-- Another text of the same length that is apart in one byte is told. -/
theorem dec_spoilt {m : Mf} (h : chE m = 0) (b : ByteArray) (T : List UInt8) (j q : Nat) (hq : q < 4294967296) (h0 : q ≠ 0) (hT : T.length = (frL 3 (payL m)).length) (hD : leN T = leN (frL 3 (payL m)) ^^^ (2 ^ j * q)) (hb : b.data.toList = T) : ∃ e, dcM b = .error e ∧ e ≠ 0 := by
  have hl := pay_len (goes_of h)
  have hs := spoilt 3 (payL m) T [] j q b (by omega) hq h0 hT hD (by rw [hb]; simp)
  refine ⟨(psA b 0).2.2.2, ?_, hs⟩
  unfold dcM dcU
  rw [if_pos hs]
/-- More bytes behind. -/
theorem dec_more {m : Mf} (h : chE m = 0) (b : ByteArray) (y : List UInt8) (hy : y ≠ []) (hb : b.data.toList = frL 3 (payL m) ++ y) : dcM b = .error 37 := by
  have hl := pay_len (goes_of h)
  have hp := prA_frame b 0 3 (payL m) [] y (by decide) (by decide) (by omega) (by rw [hb]; simp) rfl
  have hps : psA b 0 = (3, payL m, (payL m).length + 14, 0) := by
    have := hp
    rw [show ((0 : Nat) : Int) = 0 from rfl, prA0] at this
    simpa using this
  have hz : b.size = (payL m).length + 14 + y.length := by rw [← nm_size, hb]; simp [frL_len]
  have hy' : 0 < y.length := List.length_pos_iff.2 hy
  unfold dcM dcU
  rw [hps]
  simp only [ne_eq, not_true_eq_false, if_false]
  rw [if_pos (by omega)]
/-- Fewer bytes. -/
theorem dec_less {m : Mf} (h : chE m = 0) (b : ByteArray) (k : Nat) (hk : k < (frL 3 (payL m)).length) (hb : b.data.toList = (frL 3 (payL m)).take k) : ∃ e, dcM b = .error e ∧ e ≠ 0 := by
  cases hd : dcM b with
  | error e =>
    refine ⟨e, rfl, ?_⟩
    unfold dcM at hd
    cases hU : dcU b with
    | error e' => rw [hU] at hd; cases hd; exact dcU_err hU
    | ok mu =>
      rw [hU] at hd
      simp only at hd
      split at hd
      · cases hd
      · next hc => cases hd; exact hc
  | ok m' =>
    exfalso
    obtain ⟨h1, h2⟩ := dec_only hd
    rw [h2, pay_frame h1] at hb
    have hl := pay_len (goes_of h)
    have hl' := pay_len (goes_of h1)
    have e1 := congrArg List.length hb
    rw [List.length_take, frL_len, frL_len] at e1
    rw [frL_len] at hk
    have e2 : (frL 3 (payL m')).take 6 = (frL 3 (payL m)).take 6 := by
      rw [hb, List.take_take]
      congr 1
      omega
    have e3 : ∀ p : List UInt8, (frL 3 p).take 6 = hdL 3 p.length := fun p => by
      unfold frL
      rw [List.append_assoc, List.append_assoc, List.take_append_of_le_length (by rw [hdL_len]; omega), List.take_of_length_le (by rw [hdL_len]; omega)]
    rw [e3, e3] at e2
    have := hdL_inj 3 3 (payL m).length (payL m').length (by omega) (by omega) e2
    omega
end Go.Proofs.YtejpakejfikkmaaDoor
