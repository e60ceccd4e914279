/-
  DERIVED. What a file's name says: the document's decimal and Kind.
-/
import Derived.Test.YtibjneoiombbfaaDoorKKind
set_option linter.unusedVariables false
set_option linter.unusedSimpArgs false
namespace Go.Proofs.YtibjneoiombbfaaDoor
open Go.RowKit
theorem take_snoc (b : ByteArray) (i : Nat) (h : i < b.size) : b.data.toList.take (i + 1) = b.data.toList.take i ++ [b[i]] := by
  have h' : i < b.data.toList.length := by simpa using h
  rw [List.take_add_one, List.getElem?_eq_getElem h']
  rfl
theorem decFrom_lt : ∀ (l : List UInt8) (a n : Nat), Lib.decFrom a l = some n → n < (a + 1) * 10 ^ l.length
  | [], a, n, h => by simp only [Lib.decFrom, Option.some.injEq] at h; simp; omega
  | c :: l, a, n, h => by
    simp only [Lib.decFrom] at h
    cases hd : Lib.digitVal c with
    | none => rw [hd] at h; cases h
    | some d =>
      rw [hd] at h
      have hd9 : d < 10 := by
        unfold Lib.digitVal at hd
        split at hd
        · injection hd with hd; omega
        · cases hd
      have := decFrom_lt l _ n h
      refine Nat.lt_of_lt_of_le this ?_
      rw [List.length_cons, Nat.pow_succ, Nat.mul_comm (10 ^ l.length) 10, ← Nat.mul_assoc]
      exact Nat.mul_le_mul_right _ (by omega)
theorem decFrom_none (l r : List UInt8) (c : UInt8) (n : Nat) (h : Lib.decFrom 0 l = some n) (hc : Lib.digitVal c = none) : Lib.decFrom 0 (l ++ [c] ++ r) = none := by
  have : ∀ (l : List UInt8) (a : Nat), Lib.decFrom a (l ++ [c] ++ r) = none := by
    intro l
    induction l with
    | nil => intro a; simp [Lib.decFrom, hc]
    | cons d l ih =>
      intro a
      simp only [List.cons_append, Lib.decFrom]
      cases Lib.digitVal d with
      | none => rfl
      | some k => exact ih _
  exact this l 0
set_option maxHeartbeats 4000000 in
set_option maxRecDepth 100000 in
theorem rdecimal_any (s : ByteArray) (lo hi' : Int) (w : World) (V : Vs w) :
    Calls Tryd.prog 61 #[.string s, .int .i64 lo, .int .i64 hi'] w fun e w' => e = .returned (.int .i64 (decD s.data.toList lo hi')) ∧ Below w.heap.size w w' := by
  obtain ⟨r, hr⟩ : ∃ r, r = decD s.data.toList lo hi' := ⟨_, rfl⟩
  rw [← hr]
  have hs := nm_size s
  by_cases hz : s.size < 1 ∨ 18 < s.size
  · have hI : (s.size : Int) < 1 ∨ 18 < (s.size : Int) := by omega
    have HR : Hid (r = -1) := by show _ = _; rw [hr]; unfold decD; rw [if_pos (by rw [hs]; exact hz)]
    clear hr
    go_enter Tryd.func61, Tryd.ntmps61
    go_wp2
    all_goals first
      | (exfalso; omega)
      | (go_ret; exact ⟨ret_int HR.out.symm, Below.refl _ _⟩)
  · have h1 : ¬ (s.size : Int) < 1 := by omega
    have h2 : ¬ 18 < (s.size : Int) := by omega
    have HR : Hid (r = decT s.data.toList lo hi' (Lib.decFrom 0 s.data.toList)) := by
      show _ = _; rw [hr]; unfold decD; rw [if_neg (by rw [hs]; exact hz)]
    clear hr
    have VV : Hid _ := V
    clear V
    go_enter Tryd.func61, Tryd.ntmps61
    go_wp2
    go_loopw [7, 8] (fun x u wr => ∃ (i n : Nat), u = .int .i64 i ∧ x = .int .i64 n ∧ i ≤ s.size ∧ Hid (Lib.decFrom 0 (s.data.toList.take i) = some n) ∧ wr = w) (fun _ u _ => s.size - (intOf u).toNat)
    case atStart => exact ⟨0, 0, rfl, rfl, Nat.zero_le _, rfl, rfl⟩
    case round =>
      obtain ⟨i, n, rfl, rfl, hi, HD, rfl⟩ := hrel
      have hn := decFrom_lt _ _ _ HD.out
      have hp : 10 ^ (s.data.toList.take i).length ≤ 10 ^ i := Nat.pow_le_pow_right (by omega) (by rw [List.length_take]; omega)
      by_cases hlt : i < s.size
      · have hc := (s[i]).toNat_lt
        have hp2 : 10 ^ i ≤ 10 ^ 17 := Nat.pow_le_pow_right (by omega) (by omega)
        have hn2 : n < 100000000000000000 := by
          have : (10 : Nat) ^ 17 = 100000000000000000 := by decide
          omega
        clear hn hp hp2
        by_cases hdg : 48 ≤ (s[i]).toNat ∧ (s[i]).toNat ≤ 57
        · have HN : Hid (Lib.decFrom 0 (s.data.toList.take (i + 1)) = some (10 * n + ((s[i]).toNat - 48))) := by
            show _ = _
            rw [take_snoc s i hlt, decFrom_app, HD.out]
            unfold Lib.digitVal
            rw [if_pos hdg]
            simp only [Option.bind_some, Option.map_some]
            congr 1; omega
          obtain ⟨d, hd⟩ : ∃ d, (s[i]).toNat = d + 48 := ⟨(s[i]).toNat - 48, by omega⟩
          rw [hd] at HN
          simp only [Nat.add_sub_cancel] at HN
          clear HD
          go_wp2
          exact ⟨⟨i + 1, 10 * n + d, rfl, rfl, hlt, HN, trivial⟩, by simp only [intOf]; omega⟩
        · have HR2 : Hid (r = -1) := by
            show _ = _
            rw [HR.out, ← List.take_append_drop (i + 1) s.data.toList, take_snoc s i hlt, decFrom_none _ _ _ n HD.out (by unfold Lib.digitVal; rw [if_neg hdg])]
            rfl
          clear HD HR
          go_wp2
          all_goals first
            | (exfalso; omega)
            | (go_ret; exact ⟨ret_int HR2.out.symm, Below.refl _ _⟩)
      · have e : i = s.size := by omega
        subst e
        have hp2 : 10 ^ s.size ≤ 10 ^ 18 := Nat.pow_le_pow_right (by omega) (by omega)
        have hn2 : n < 1000000000000000000 := by
          have : (10 : Nat) ^ 18 = 1000000000000000000 := by decide
          omega
        have hD := HD.out
        rw [List.take_of_length_le (by rw [hs]; exact Nat.le_refl _)] at hD
        have HR2 : Hid (r = if (n : Int) < lo ∨ hi' < (n : Int) ∨ Lib.itoa n ≠ s.data.toList then (-1 : Int) else (n : Int)) := by
          show _ = _; rw [HR.out, hD]; rfl
        have ci := itoa_any n wr VV.out (by omega)
        clear HD HR hD hn hp hp2
        by_cases c1 : (n : Int) < lo
        · have HR3 : Hid (r = -1) := by show _ = _; rw [HR2.out, if_pos (Or.inl c1)]
          clear HR2 ci
          go_wp2
          go_ret
          exact ⟨ret_int HR3.out.symm, Below.refl _ _⟩
        by_cases c2 : hi' < (n : Int)
        · have HR3 : Hid (r = -1) := by show _ = _; rw [HR2.out, if_pos (Or.inr (Or.inl c2))]
          clear HR2 ci
          go_wp2
          go_ret
          exact ⟨ret_int HR3.out.symm, Below.refl _ _⟩
        by_cases c3 : Lib.itoa n = s.data.toList
        · have HR3 : Hid (r = n) := by show _ = _; rw [HR2.out, if_neg (by rintro (h | h | h); exact c1 h; exact c2 h; exact h c3)]
          clear HR2
          have c4 : (⟨(Lib.itoa n).toArray⟩ : ByteArray) = s := (str_eq _ s).2 c3
          rw [c4] at ci
          clear c3 c4
          go_wp2_with (go_at_call 22; refine ci.mono ?_; rintro e w2 ⟨rfl, b2⟩; clear ci)
          go_ret
          exact ⟨ret_int HR3.out.symm, b2⟩
        · have HR3 : Hid (r = -1) := by show _ = _; rw [HR2.out, if_pos (Or.inr (Or.inr c3))]
          clear HR2
          go_wp2_with (go_at_call 22; refine ci.mono ?_; rintro e w2 ⟨rfl, b2⟩; clear ci)
          all_goals first
            | (go_ret; exact ⟨ret_int HR3.out.symm, b2⟩)
            | (exfalso; simp only [ByteArray.toList_eq, bne_iff_ne, ne_eq, bne_eq_false_iff_eq] at *; exact c3 ‹_›)
            | (exfalso; simp_all [ByteArray.toList_eq])
set_option maxHeartbeats 4000000 in
set_option maxRecDepth 100000 in
theorem rkind_any (s : ByteArray) (w : World) (V : Vs w) (hlim : s.size ≤ 281474976710656) :
    Calls Tryd.prog 24 #[.string s] w fun e w' => e = .returned (.tuple #[.int .i64 (kindT s.data.toList).1, .int .i64 (kindT s.data.toList).2.1, .int .i64 (kindT s.data.toList).2.2]) ∧ Below w.heap.size w w' := by
  obtain ⟨T, hT⟩ : ∃ T, T = kindT s.data.toList := ⟨_, rfl⟩
  rw [← hT]
  have hs : s.data.toList.length = s.size := nm_size s
  have hd := ByteArray.toList_eq s
  by_cases h1 : s.data.toList = nmManifest
  · have e1 : s.toList = [109, 97, 110, 105, 102, 101, 115, 116] := hd.trans h1
    obtain rfl : T = (1, 0, 0) := by rw [hT]; unfold kindT; rw [if_pos h1]
    clear hT h1 hd hs
    go_enter Tryd.func24, Tryd.ntmps24
    go_wp2
    go_ret3
    exact ⟨rfl, Below.refl _ _⟩
  by_cases h2 : s.data.toList = nmNew
  · have e1 : s.toList = [109, 97, 110, 105, 102, 101, 115, 116, 46, 110, 101, 119] := hd.trans h2
    obtain rfl : T = (2, 0, 0) := by rw [hT]; unfold kindT; rw [if_neg h1, if_pos h2]
    clear hT h1 h2 hd hs
    go_enter Tryd.func24, Tryd.ntmps24
    go_wp2
    go_ret3
    exact ⟨rfl, Below.refl _ _⟩
  have e1 : (s.toList == [109, 97, 110, 105, 102, 101, 115, 116]) = false := beq_no (fun h => h1 (hd.symm.trans h))
  have e2 : (s.toList == [109, 97, 110, 105, 102, 101, 115, 116, 46, 110, 101, 119]) = false := beq_no (fun h => h2 (hd.symm.trans h))
  have H1 : Hid _ := h1
  have H2 : Hid _ := h2
  clear h1 h2
  by_cases h0 : s.size = 0
  · obtain rfl : T = (0, 0, 0) := by
      have : s.data.toList = [] := List.eq_nil_of_length_eq_zero (by omega)
      rw [hT]; exact kind_0 H1.out H2.out (fun r h => by rw [this] at h; cases h) (fun r h => by rw [this] at h; cases h)
    have e3 : s.toList = [] := hd.trans (List.eq_nil_of_length_eq_zero (by omega))
    clear hT H1 H2 hd hs e1 e2
    go_enter Tryd.func24, Tryd.ntmps24
    go_wp2
    go_ret3
    exact ⟨rfl, Below.refl _ _⟩
  have e3 : (s.toList == []) = false := beq_no (fun h => by rw [hd] at h; rw [h] at hs; simp at hs; omega)
  have hp : 0 < s.size := by omega
  obtain ⟨r, hr⟩ : ∃ r, s.data.toList = s[0] :: r := by
    cases hl : s.data.toList with
    | nil => rw [hl] at hs; simp at hs; omega
    | cons c r =>
      refine ⟨r, ?_⟩
      have : s.data.toList[0]? = some s[0] := by rw [List.getElem?_eq_getElem (by rw [hs]; exact hp)]; rfl
      rw [hl] at this
      simp at this
      rw [this]
  have xr : (s.extract 1 s.size).data.toList = r := by
    rw [ByteArray.data_extract, Array.toList_extract, List.extract_eq_take_drop, hr]
    simp
    rw [List.take_of_length_le]
    rw [hr] at hs; simp at hs; omega
  have VV : Hid _ := V
  clear V
  by_cases hj : (s[0]).toNat = 106
  · have hj' : s[0] = 106 := UInt8.toNat_inj.1 hj
    rw [hj'] at hr
    have cd := rdecimal_any (s.extract 1 s.size) 1 1099511627776 w VV.out
    rw [xr, decD_eq (by omega) (by omega)] at cd
    cases hdd : dec r 1 1099511627776 with
    | some n =>
      obtain rfl : T = (3, n, 0) := by rw [hT]; exact kind_j H1.out H2.out hr hdd
      rw [hdd] at cd
      have hn := ((dec_some (by omega) (by omega)).1 hdd).1
      simp only [Option.getD_some] at cd
      clear hdd hT H1 H2 hd hs hr xr h0 hj'
      go_enter Tryd.func24, Tryd.ntmps24
      go_wp2_with (go_at_call 61; refine cd.mono ?_; rintro e w2 ⟨rfl, b2⟩; clear cd)
      go_ret3
      exact ⟨rfl, b2⟩
    | none =>
      obtain rfl : T = (0, 0, 0) := by rw [hT]; exact kind_0 H1.out H2.out (fun r' h => by rw [hr] at h; cases h; exact hdd) (fun r' h => by rw [hr] at h; cases h)
      rw [hdd] at cd
      simp only [Option.getD_none] at cd
      clear hdd hT H1 H2 hd hs hr xr h0 hj'
      go_enter Tryd.func24, Tryd.ntmps24
      go_wp2_with (go_at_call 61; refine cd.mono ?_; rintro e w2 ⟨rfl, b2⟩; clear cd)
      go_ret3
      exact ⟨rfl, b2⟩
  by_cases hq : (s[0]).toNat = 114
  · have hq' : s[0] = 114 := UInt8.toNat_inj.1 hq
    rw [hq'] at hr
    have kr := fun n j (hn : numTab r = some (n, j)) => kind_r H1.out H2.out hr hn
    have k0 := fun (hn : numTab r = none) => kind_0 H1.out H2.out (fun r' h => by rw [hr] at h; cases h) (fun r' h => by rw [hr] at h; cases h; exact hn)
    rw [← hT] at kr k0
    have KR := Hid.mk kr
    have K0 := Hid.mk k0
    have RL : Hid (r.length + 1 = s.size) := by show _ = _; rw [hr] at hs; simpa using hs
    have RA : Hid (∀ (i : Nat) (h : i < s.size), 1 ≤ i → r[i - 1]? = some s[i]) := fun i h h1 => by
      have : s.data.toList[i]? = some s[i] := by rw [List.getElem?_eq_getElem (by rw [hs]; exact h)]; rfl
      rw [hr] at this
      cases i with
      | zero => omega
      | succ i => simpa using this
    have X1 : Hid (∀ i : Nat, (s.extract 1 i).data.toList = r.take (i - 1)) := fun i => by
      rw [ByteArray.data_extract, Array.toList_extract, List.extract_eq_take_drop, hr]; simp
    have X2 : Hid (∀ i : Nat, 1 ≤ i → (s.extract (i + 1) s.size).data.toList = r.drop i) := fun i h => by
      rw [ByteArray.data_extract, Array.toList_extract, List.extract_eq_take_drop, hr]
      simp only [List.drop_succ_cons]
      rw [List.take_of_length_le]
      rw [hr] at hs; simp at hs ⊢; omega
    clear hT H1 H2 hd hs hr xr h0 kr k0 hq'
    go_enter Tryd.func24, Tryd.ntmps24
    go_wp2
    go_loopw [6] (fun u wr => ∃ (i : Nat), u = .int .i64 i ∧ 1 ≤ i ∧ i ≤ s.size ∧ Hid (∀ k, k < i - 1 → r[k]? ≠ some 46) ∧ wr = w) (fun u _ => s.size - (intOf u).toNat)
    case atStart => exact ⟨1, rfl, Nat.le_refl _, hp, fun k hk => by omega, rfl⟩
    case round =>
      obtain ⟨i, rfl, hi1, hi, HN, rfl⟩ := hrel
      by_cases hlt : i < s.size
      · have hri := RA.out i hlt hi1
        by_cases hc : (s[i]).toNat = 46
        · have hc' : s[i] = 46 := UInt8.toNat_inj.1 hc
          have HC : Hid (numTab r = pairO (dec (r.take (i - 1)) 1 1099511627776) (dec (r.drop i) 0 127)) := by
            show _ = _
            unfold numTab
            rw [cut_at (i - 1) r (by rw [hri, hc']) HN.out, show i - 1 + 1 = i by omega]
          have c1 := rdecimal_any (s.extract 1 i) 1 1099511627776 wr VV.out
          rw [X1.out i, decD_eq (by omega) (by omega)] at c1
          have c2 := fun W (V : Vs W) => rdecimal_any (s.extract (i + 1) s.size) 0 127 W V
          simp only [X2.out i hi1] at c2
          rw [decD_eq (by omega) (by omega)] at c2
          clear hri hc' HN RA X1 X2
          have t1 : True := trivial
          have i1 : (i : Int) + 1 ≤ s.size := by omega
          have i2 : IntKind.i64.wrap ((i : Int) + 1) = (i : Int) + 1 := i64_in _ (by omega) (by omega)
          cases hd1 : dec (r.take (i - 1)) 1 1099511627776 with
          | none =>
            rw [hd1] at c1 HC
            have h0 := K0.out (by rw [HC.out]; rfl)
            subst h0
            simp only [Option.getD_none] at c1
            clear HC K0 KR hd1
            go_wp2_with first
              | (go_at_call 61; have _t := t1; refine c1.mono ?_; rintro e w2 ⟨rfl, b2⟩; have V2 := VV.out.lat b2; clear c1 t1)
              | (go_at_call 61; refine (c2 _ V2).mono ?_; rintro e w3 ⟨rfl, b3'⟩; have b3 := chain b2 b3' (Nat.le_refl _); clear c2)
            go_ret3
            exact ⟨rfl, b3⟩
          | some n =>
            have hn := ((dec_some (by omega) (by omega)).1 hd1).1
            cases hd2 : dec (r.drop i) 0 127 with
            | none =>
              rw [hd1, hd2] at HC
              rw [hd1] at c1
              rw [hd2] at c2
              have h0 := K0.out (by rw [HC.out]; rfl)
              subst h0
              simp only [Option.getD_none, Option.getD_some] at c1 c2
              clear HC K0 KR hd1 hd2
              go_wp2_with first
                | (go_at_call 61; have _t := t1; refine c1.mono ?_; rintro e w2 ⟨rfl, b2⟩; have V2 := VV.out.lat b2; clear c1 t1)
                | (go_at_call 61; refine (c2 _ V2).mono ?_; rintro e w3 ⟨rfl, b3'⟩; have b3 := chain b2 b3' (Nat.le_refl _); clear c2)
              go_ret3
              exact ⟨rfl, b3⟩
            | some j =>
              have hj2 := ((dec_some (by omega) (by omega)).1 hd2).1
              rw [hd1, hd2] at HC
              rw [hd1] at c1
              rw [hd2] at c2
              have h0 := KR.out n j (by rw [HC.out]; rfl)
              subst h0
              simp only [Option.getD_some] at c1 c2
              clear HC K0 KR hd1 hd2
              go_wp2_with first
                | (go_at_call 61; have _t := t1; refine c1.mono ?_; rintro e w2 ⟨rfl, b2⟩; have V2 := VV.out.lat b2; clear c1 t1)
                | (go_at_call 61; refine (c2 _ V2).mono ?_; rintro e w3 ⟨rfl, b3'⟩; have b3 := chain b2 b3' (Nat.le_refl _); clear c2)
              go_ret3
              exact ⟨rfl, b3⟩
        · have HN' : Hid (∀ k, k < i + 1 - 1 → r[k]? ≠ some 46) := fun k hk => by
            by_cases h : k < i - 1
            · exact HN.out k h
            · have : k = i - 1 := by omega
              rw [this, hri]
              intro he
              injection he with he
              exact hc (by rw [he]; rfl)
          clear hri HN RA X1 X2 KR K0
          go_wp2
          exact ⟨⟨i + 1, rfl, by omega, hlt, HN', trivial⟩, by simp only [intOf]; omega⟩
      · have e : i = s.size := by omega
        subst e
        have h0 := K0.out (numTab_no r (fun c hc he => by
          subst he
          obtain ⟨k, hk, hkk⟩ := List.mem_iff_getElem.1 hc
          exact HN.out k (by have := RL.out; omega) (by rw [List.getElem?_eq_getElem hk, hkk])))
        subst h0
        clear HN RA X1 X2 KR K0 RL
        go_wp2
        go_ret3
        exact ⟨rfl, Below.refl _ _⟩
  · obtain rfl : T = (0, 0, 0) := by
      rw [hT]; exact kind_0 H1.out H2.out (fun r' h => by rw [hr] at h; exact absurd (by rw [(List.cons.inj h).1]; rfl) hj) (fun r' h => by rw [hr] at h; exact absurd (by rw [(List.cons.inj h).1]; rfl) hq)
    clear hT H1 H2 hd hs hr xr h0
    go_enter Tryd.func24, Tryd.ntmps24
    go_wp2
    go_ret3
    exact ⟨rfl, Below.refl _ _⟩
end Go.Proofs.YtibjneoiombbfaaDoor
