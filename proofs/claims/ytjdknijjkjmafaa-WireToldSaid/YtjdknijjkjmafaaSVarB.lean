/-
  DERIVED. Numbers in bytes of seven bits: the document's Var; PutVar, both.
-/
import Derived.Test.YtjdknijjkjmafaaSVar
namespace Go.Proofs.Ytjdknijjkjmafaa
open Go.RowKit Go.Proofs.SealMath
set_option maxRecDepth 100000 in
set_option maxHeartbeats 8000000 in
theorem rvar_ok (b : ByteArray) (p : Nat) (R : Nat × Nat × Int) (w : World) (hb : b.size < 4611686018427387904) (hs : p ≤ b.size) (hR : R = vG b p 0 11) :
    Calls Try.prog 52 #[.string b, .int .i64 p] w fun e w' => e = .returned (.tuple #[.int .u64 R.1, .int .i64 R.2.1, .int .i64 R.2.2]) ∧ w' = w := by
  have hp1 : ¬ (p : Int) < 0 := by omega
  have hp2 : ¬ b.size < p := by omega
  go_enter Try.func52, Try.ntmps52
  go_wp2
  go_loopw [7, 8] (fun x u wr => ∃ k f : Nat, k + f = 11 ∧ k ≤ 9 ∧ p + k ≤ b.size ∧ u = .int .i64 k ∧ x = .int .u64 (vN (sub b p k)) ∧ R = vG b p k f ∧ wr = w) (fun _ u _ => 10 - (intOf u).toNat)
  case atStart => exact ⟨0, 11, rfl, by omega, by omega, rfl, rfl, hR, rfl⟩
  case round =>
    obtain ⟨k, f, hkf, hk9, hpk, rfl, rfl, hG, rfl⟩ := hrel
    clear hR
    obtain ⟨f, rfl⟩ : ∃ g, f = g + 1 := ⟨f - 1, by omega⟩
    have HF : Hid (k + (f + 1) = 11) := hkf
    clear hkf
    have hlv := vN_lt (sub b p k)
    rw [sub_len b p k hpk] at hlv
    have hk10 : k < 10 := by omega
    by_cases hlt : p + k < b.size
    · have hc := (b[p + k]).toNat_lt
      have hsn := vN_snoc (sub b p k) (b[p + k])
      rw [← sub_snoc b p k hlt, sub_len b p k hpk] at hsn
      rw [vG, dif_pos hlt] at hG
      by_cases h9 : k = 9 ∧ 1 < (b[p + k]).toNat
      · rw [if_pos h9] at hG
        subst hG
        obtain ⟨rfl, h1⟩ := h9
        clear hsn hlv
        go_wp2
        go_ret3
        exact ⟨rfl, rfl⟩
      · rw [if_neg h9] at hG
        have hb64 := vterm_lt (vN (sub b p k)) (b[p + k]).toNat k hlv (Nat.mod_lt _ (by omega)) hk9 (by omega)
        have ec : (((b[p + k]).toNat % 128 * 2 ^ (7 * k) : Nat) : Int) = ((b[p + k]).toNat : Int) % 128 * 2 ^ (7 * k) := by simp
        have hw : IntKind.u64.wrap (((b[p + k]).toNat : Int) % 128 * 2 ^ (7 * k)) = ((b[p + k]).toNat : Int) % 128 * 2 ^ (7 * k) := by
          rw [← ec, IntKind.wrap_u64]
          generalize (b[p + k]).toNat % 128 * 2 ^ (7 * k) = T at *
          omega
        have hw2 : IntKind.u64.wrap (((vN (sub b p k) : Nat) : Int) + ((b[p + k]).toNat : Int) % 128 * 2 ^ (7 * k)) = ((vN (sub b p (k + 1)) : Nat) : Int) := by
          rw [hsn, ← ec, IntKind.wrap_u64]
          generalize (b[p + k]).toNat % 128 * 2 ^ (7 * k) = T at *
          omega
        clear ec
        by_cases h128 : 128 ≤ (b[p + k]).toNat
        · rw [if_pos h128] at hG
          have h8 : k ≤ 8 := by omega
          clear h9 hsn
          have h9 : ¬ k = 9 := by omega
          clear hb64
          go_wp2
          refine ⟨⟨k + 1, f, by have := HF.out; omega, by omega, by omega, rfl, ?_, hG, trivial⟩, by simp only [intOf]; omega⟩
          trivial
        · rw [if_neg h128] at hG
          by_cases h0 : (b[p + k]).toNat = 0 ∧ 0 < k
          · rw [if_pos h0] at hG
            subst hG
            obtain ⟨h00, h01⟩ := h0
            clear h9 hw hw2 hsn hb64 hlv
            by_cases hk : k = 9
            · subst hk
              go_wp2
              go_ret3
              exact ⟨rfl, rfl⟩
            · go_wp2
              go_ret3
              exact ⟨rfl, rfl⟩
          · rw [if_neg h0] at hG
            subst hG
            by_cases h00 : (b[p + k]).toNat = 0
            · have hk0 : k = 0 := by omega
              subst hk0
              have HZ : Hid (vN (sub b p (0 + 1)) = 0) := by
                show _ = _; rw [hsn, h00]; rfl
              have hlt' : p < b.size := hlt
              have h00' : (b[p]'hlt').toNat = 0 := h00
              clear h9 hw hw2 hsn hb64 hlv h128 h0 h00 hc
              go_wp2
              go_ret3
              refine ⟨ret3 (ival ?_) rfl rfl, rfl⟩
              have e0 : vN (sub b p 0) = 0 := by unfold sub; rw [List.take_zero]; rfl
              rw [HZ.out, e0]
              decide +kernel
            · clear hsn
              by_cases hk : k = 9
              · have hle : ¬ 1 < (b[p + k]).toNat := by omega
                subst hk
                clear h9 h0 hb64
                go_wp2
                go_ret3
                have e63 : (2 : Int) ^ (7 * 9) = 9223372036854775808 := by decide
                have hl2 : vN (sub b p 9) < 9223372036854775808 := hlv
                exact ⟨ret3 (ival (by rw [← hw2, IntKind.wrap_u64, e63]; omega)) rfl rfl, rfl⟩
              · clear h9 h0 hb64
                go_wp2
                go_ret3
                exact ⟨rfl, rfl⟩
    · rw [vG, dif_neg hlt] at hG
      subst hG
      have e : p + k = b.size := by omega
      clear hlv
      go_wp2
      go_ret3
      exact ⟨rfl, rfl⟩
set_option maxHeartbeats 1000000 in
theorem rvar_any (b : ByteArray) (p : Int) (w : World) (hb : b.size < 4611686018427387904) :
    Calls Try.prog 52 #[.string b, .int .i64 p] w fun e w' => e = .returned (.tuple #[.int .u64 (vA b p).1, .int .i64 (vA b p).2.1, .int .i64 (vA b p).2.2]) ∧ w' = w := by
  unfold vA
  by_cases h : 0 ≤ p
  · by_cases k : p ≤ b.size
    · rw [if_pos ⟨h, k⟩]
      obtain ⟨a, rfl⟩ : ∃ a : Nat, p = a := ⟨p.toNat, by omega⟩
      exact rvar_ok b a _ w hb (by omega) rfl
    · rw [if_neg (by omega)]
      go_enter Try.func52, Try.ntmps52
      go_wp2
      go_ret3
      exact ⟨rfl, rfl⟩
  · rw [if_neg (by omega)]
    go_enter Try.func52, Try.ntmps52
    go_wp2
    go_ret3
    exact ⟨rfl, rfl⟩
/-- A number in bytes of seven bits. -/
def pvL : Nat → Nat → List UInt8
  | 0, v => [UInt8.ofNat v]
  | f + 1, v => if v < 128 then [UInt8.ofNat v] else UInt8.ofNat (128 + v % 128) :: pvL f (v / 128)
theorem arr10_slice (W : World) (g n : Nat) (hn : n ≤ 10) :
    (Instr.sliceAt 124 (.pointer (some ⟨g, 0, none⟩)) none (some (.int .i64 n)) none).run Try.prog W = .ok (.slice (some ⟨g, 0, none⟩) n 10) W := by
  have hal : Try.prog.arrayLen 124 = 10 := by simp [Program.arrayLen, Try.underlying124]
  rw [run_sliceAt_array_h W 124 ⟨g, 0, none⟩ (by simp [Program.arrayLen, Program.elem, Try.underlying124]) .i64 (n : Int) (by omega) (by rw [hal]; omega)]
  have he : Try.prog.elem 124 = 5 := by simp [Program.elem, Try.underlying124]
  have hs : (sizeOf 5).run Try.prog W = .ok 1 W := by kernel_rfl
  rw [he, hs, hal]
  have ea : (⟨g, 0, none⟩ : Addr).add 0 = ⟨g, 0, none⟩ := by unfold Addr.add; split <;> simp_all
  simp [slicedAt, Result.andThen, ea]
theorem or128 (x : Nat) (hx : x < 256) : bits .or .u8 (x : Int) 128 = ((128 + x % 128 : Nat) : Int) := by
  have h := u8_or_nat x 128 hx (by omega)
  have : ∀ y, y < 256 → y ||| 128 = 128 + y % 128 := by decide +kernel
  rw [this x hx] at h
  exact h
theorem vshift (v k : Nat) (h : v * 2 ^ (7 * k) < 18446744073709551616) : v / 128 * 2 ^ (7 * (k + 1)) < 18446744073709551616 := by
  have e : 2 ^ (7 * (k + 1)) = 128 * 2 ^ (7 * k) := by rw [Nat.mul_add, Nat.pow_add, Nat.mul_comm]
  rw [e, ← Nat.mul_assoc]
  exact Nat.lt_of_le_of_lt (Nat.mul_le_mul_right _ (Nat.div_mul_le_self v 128)) h
theorem vlast (v k : Nat) (h : v * 2 ^ (7 * k) < 18446744073709551616) (hk : 9 ≤ k) : v < 128 := by
  have e : 2 ^ (7 * 9) ≤ 2 ^ (7 * k) := Nat.pow_le_pow_right (by decide) (by omega)
  have := Nat.mul_le_mul_left v e
  have e2 : (2 : Nat) ^ (7 * 9) = 9223372036854775808 := by decide
  rw [e2] at this
  omega
def lb (l : List UInt8) (k : Nat) : Nat := (l.getD k 0).toNat
theorem lb_snoc (l : List UInt8) (c : UInt8) (k : Nat) : lb (l ++ [c]) k = if k = l.length then c.toNat else lb l k := by
  unfold lb
  by_cases h : k < l.length
  · rw [if_neg (by omega)]; simp [List.getD_eq_getElem?_getD, List.getElem?_append_left h]
  · by_cases e : k = l.length
    · subst e; simp
    · rw [if_neg e, List.getD_eq_getElem?_getD, List.getD_eq_getElem?_getD, List.getElem?_eq_none (by simp; omega), List.getElem?_eq_none (by omega)]
theorem lb_at (l : List UInt8) (k : Nat) (h : k < l.length) : (l[k]).toNat = lb l k := by
  unfold lb; rw [List.getD_eq_getElem?_getD, List.getElem?_eq_getElem h]; rfl
set_option maxRecDepth 100000 in
set_option maxHeartbeats 8000000 in
theorem putvar_any (v : Nat) (w : World) (hv : v < 18446744073709551616) :
    Calls Try.prog 62 #[.int .u64 v] w fun e w' => e = .returned (.string ⟨(pvL 9 v).toArray⟩) ∧ Below w.heap.size w w' := by
  obtain ⟨R, hR⟩ : ∃ R, R = pvL 9 v := ⟨_, rfl⟩
  rw [← hR]
  go_enter Try.func62, Try.ntmps62
  go_wp2
  go_loopw [0, 4] (fun x u wr => ∃ (y k f : Nat) (l : List UInt8), k + f = 9 ∧ l.length = k ∧ y * 2 ^ (7 * k) < 18446744073709551616 ∧ x = .int .u64 y ∧ u = .int .i64 k ∧ R = l ++ pvL f y ∧ BA wr w.heap.size 10 (lb l) ∧ Below w.heap.size w wr) (fun x _ _ => (intOf x).toNat)
  case atStart => exact ⟨v, 0, 9, [], rfl, rfl, by simpa using hv, rfl, rfl, hR, BA.new w 124 10 _ rfl, (Below.refl _ _).alloc (Nat.le_refl _) _⟩
  case round =>
    obtain ⟨y, k, f, l, hkf, hl, hy, rfl, rfl, hG, hBA, hbl⟩ := hrel
    clear hR
    have hy64 : y < 18446744073709551616 := Nat.lt_of_le_of_lt (Nat.le_mul_of_pos_right _ (Nat.two_pow_pos _)) hy
    by_cases h128 : 128 ≤ y
    · have hk8 : k ≤ 8 := by
        by_cases h9 : 9 ≤ k
        · have := vlast y k hy h9; omega
        · omega
      obtain ⟨hc, hfz⟩ := hBA k (by omega)
      have HB : Hid (BA wr w.heap.size 10 (lb l)) := hBA
      have HY : Hid (y * 2 ^ (7 * k) < 18446744073709551616) := hy
      have HK : Hid (k + f = 9) := hkf
      have ho := or128 (y % 256) (by omega)
      rw [show y % 256 % 128 = y % 128 by omega, show ((y % 256 : Nat) : Int) = (y : Int) % 256 by simp] at ho
      clear hBA hy hkf
      go_wp2
      have hK := HK.out
      obtain ⟨g, rfl⟩ : ∃ g, f = g + 1 := ⟨f - 1, by omega⟩
      have e8 : (UInt8.ofNat (128 + y % 128)).toNat = 128 + y % 128 := by rw [UInt8.toNat_ofNat']; exact Nat.mod_eq_of_lt (by omega)
      refine ⟨⟨y / 128, k + 1, g, l ++ [UInt8.ofNat (128 + y % 128)], by omega, by simp [hl], vshift y k HY.out, rfl, rfl, ?_, ?_, hbl.setCell (p := ⟨w.heap.size, k, none⟩) (Nat.le_refl _) _⟩, by simp only [intOf]; omega⟩
      · rw [hG, pvL, if_neg (by omega)]; simp
      · refine (HB.out.set k (128 + y % 128)).ext fun q _ => ?_
        rw [lb_snoc, hl, e8]
    · have hk9 : k ≤ 9 := by omega
      obtain ⟨hc, hfz⟩ := hBA k (by omega)
      have e8 : (UInt8.ofNat y).toNat = y := by rw [UInt8.toNat_ofNat']; exact Nat.mod_eq_of_lt (by omega)
      have HG : Hid (R = l ++ [UInt8.ofNat y]) := by
        show _ = _
        rw [hG]
        cases f with
        | zero => rfl
        | succ f => rw [pvL, if_pos (by omega)]
      have hB2 : BA (wr.setCell ⟨w.heap.size, k, none⟩ (.int .u8 y)) w.heap.size 10 (lb (l ++ [UInt8.ofNat y])) :=
        (hBA.set k y).ext fun q _ => by rw [lb_snoc, hl, e8]
      have hcv := hB2.conv (l ++ [UInt8.ofNat y]) 10 (by simp [hl]; omega) (fun q hq => lb_at _ q hq)
      rw [show (l ++ [UInt8.ofNat y]).length = k + 1 by simp [hl]] at hcv
      have hsl := arr10_slice (wr.setCell ⟨w.heap.size, k, none⟩ (.int .u8 y)) w.heap.size (k + 1) (by omega)
      have hb2 : Below w.heap.size w (wr.setCell ⟨w.heap.size, k, none⟩ (.int .u8 y)) := hbl.setCell (p := ⟨w.heap.size, k, none⟩) (Nat.le_refl _) _
      clear hG hB2 hBA hy e8 hkf
      rw [show ((k + 1 : Nat) : Int) = (k : Int) + 1 by omega] at hsl
      go_wp2
      go_ret
      rw [HG.out]
      exact ⟨rfl, hb2⟩
set_option maxRecDepth 100000 in
set_option maxHeartbeats 8000000 in
theorem rputvar_any (v : Nat) (w : World) (hv : v < 18446744073709551616) :
    Calls Try.prog 45 #[.int .u64 v] w fun e w' => e = .returned (.string ⟨(pvL 9 v).toArray⟩) ∧ Below w.heap.size w w' := by
  obtain ⟨i0, hi, hz0, hz1, hz2⟩ := info_parts Try.info5
  obtain ⟨R, hR⟩ : ∃ R, R = pvL 9 v := ⟨_, rfl⟩
  rw [← hR]
  go_enter Try.func45, Try.ntmps45
  go_wp2
  go_loopw [0, 3] (fun x s wr => ∃ (y k f : Nat) (l : List UInt8), k + f = 9 ∧ l.length = k ∧ y * 2 ^ (7 * k) < 18446744073709551616 ∧ x = .int .u64 y ∧ R = l ++ pvL f y ∧ wr.ownsRow w.heap.size 5 1 s k (l.map BV) ∧ Below w.heap.size w wr) (fun x _ _ => (intOf x).toNat)
  case atStart => exact ⟨v, 0, 9, [], rfl, rfl, by simpa using hv, rfl, hR, ⟨rfl, .inl ⟨rfl, rfl⟩⟩, Below.refl _ _⟩
  case round =>
    obtain ⟨y, k, f, l, hkf, hl, hy, rfl, hG, hown, hb⟩ := hrel
    clear hR
    have hy64 : y < 18446744073709551616 := Nat.lt_of_le_of_lt (Nat.le_mul_of_pos_right _ (Nat.two_pow_pos _)) hy
    have hk9 : k ≤ 9 := by omega
    have HK : Hid (k + f = 9) := hkf
    have HY : Hid (y * 2 ^ (7 * k) < 18446744073709551616) := hy
    by_cases h128 : 128 ≤ y
    · have hk8 : k ≤ 8 := by
        by_cases h9 : 9 ≤ k
        · have := vlast y k hy h9; omega
        · omega
      clear hy hkf
      go_wp2_with (at_builtin; refine wpList_append_own _ rfl _ _ 54 rfl w.heap.size 5 i0 (.int .u8 0) 1 1 Try.underlying54 hi hz0 hz1 hz2 rfl (by decide) _ _ _ rfl (hown.alloc _) ⟨wr.heap.size, 0, none⟩ 1 1 [.int .u8 (128 + (y : Int) % 128)] ?_ rfl (cell_one_new _ _ _) (fun x hx => by simp at hx; subst hx; rfl) (by unfold maxLen; omega) (by omega) (by have := hb.size; simp; omega) ?_; go_simp; intro v' w3 hown' hgrow3 hnil3)
      clear hnil3
      have hgr : (wr.alloc (Obj.cells #[Value.int IntKind.u8 (128 + (y : Int) % 128)] 5)).grownBy w3 u3.ownBlock := hgrow3
      clear hgrow3
      have hb3 : Below w.heap.size w w3 := (hb.alloc hb.size _).grown hgr (by have := hb.size; simp; omega) (fun k hk => (hown.lt k hk).1)
      have hK := HK.out
      obtain ⟨g, rfl⟩ : ∃ g, f = g + 1 := ⟨f - 1, by omega⟩
      have e8 : (UInt8.ofNat (128 + y % 128)).toNat = 128 + y % 128 := by rw [UInt8.toNat_ofNat']; exact Nat.mod_eq_of_lt (by omega)
      refine ⟨⟨y / 128, k + 1, g, l ++ [UInt8.ofNat (128 + y % 128)], by omega, by simp [hl], vshift y k HY.out, rfl, ?_, ?_, hb3⟩, by simp only [intOf]; omega⟩
      · rw [hG, pvL, if_neg (by omega)]; simp
      · rw [List.map_append]
        have e9 : List.map BV [UInt8.ofNat (128 + y % 128)] = [.int .u8 (128 + (y : Int) % 128)] := by
          simp only [List.map_cons, List.map_nil, BV, e8]; simp
        rw [e9]; exact hown'
    · have e8 : (UInt8.ofNat y).toNat = y := by rw [UInt8.toNat_ofNat']; exact Nat.mod_eq_of_lt (by omega)
      have HG : Hid (R = l ++ [UInt8.ofNat y]) := by
        show _ = _
        rw [hG]
        cases f with
        | zero => rfl
        | succ f => rw [pvL, if_pos (by omega)]
      clear hy hkf hG
      go_wp2_with (at_builtin; refine wpList_append_own _ rfl _ _ 54 rfl w.heap.size 5 i0 (.int .u8 0) 1 1 Try.underlying54 hi hz0 hz1 hz2 rfl (by decide) _ _ _ rfl (hown.alloc _) ⟨wr.heap.size, 0, none⟩ 1 1 [.int .u8 (y : Int)] ?_ rfl (cell_one_new _ _ _) (fun x hx => by simp at hx; subst hx; rfl) (by unfold maxLen; omega) (by omega) (by have := hb.size; simp; omega) ?_; go_simp; intro v' w3 hown' hgrow3 hnil3)
      clear hnil3
      have hgr : (wr.alloc (Obj.cells #[Value.int IntKind.u8 (y : Int)] 5)).grownBy w3 u3.ownBlock := hgrow3
      clear hgrow3
      have hb3 : Below w.heap.size w w3 := (hb.alloc hb.size _).grown hgr (by have := hb.size; simp; omega) (fun k hk => (hown.lt k hk).1)
      have e9 : List.map BV l ++ [Value.int .u8 (y : Int)] = (l ++ [UInt8.ofNat y]).map BV := by
        rw [List.map_append]; simp only [List.map_cons, List.map_nil, BV, e8]
      rw [e9] at hown'
      have hcv := conv_own (l ++ [UInt8.ofNat y]) (by rw [show (l ++ [UInt8.ofNat y]).length = k + 1 by simp [hl]]; exact hown')
      clear hown' e9 hgr hown
      rw [hcv]
      go_wp2
      go_ret
      rw [HG.out]
      exact ⟨rfl, hb3⟩
end Go.Proofs.Ytjdknijjkjmafaa
