/-
  DERIVED. Names; the questions that read one cell; look, check, find.
-/
import Derived.Test.YtkaiecdbcfjemaaGreatDoorDBase
namespace Go.Proofs.YtkaiecdbcfjemaaGreatDoor
open Go.RowKit Go.Maps Go.Proofs.DiskMath
theorem nameB_iff (c : UInt8) : nameB c = true ↔ ((97 ≤ c.toNat ∧ c.toNat ≤ 122) ∨ (48 ≤ c.toNat ∧ c.toNat ≤ 57) ∨ c.toNat = 46) := by
  unfold nameB
  simp [or_assoc]
theorem at_list (s : ByteArray) (k : Nat) (h : k < s.size) : s.data.toList[k]? = some s[k] := by
  rw [Array.getElem?_toList, Array.getElem?_eq_getElem h]; rfl
theorem all_take (s : ByteArray) (k : Nat) (h : k < s.size) (hc : nameB s[k] = true) (ha : (s.data.toList.take k).all nameB = true) : (s.data.toList.take (k + 1)).all nameB = true := by
  have h' : k < s.data.toList.length := by simpa using h
  rw [List.take_succ_eq_append_getElem h', List.all_append, ha, Bool.true_and]
  have : s.data.toList[k] = s[k] := by
    have := at_list s k h
    rw [List.getElem?_eq_getElem h'] at this
    exact Option.some.inj this
  rw [this]; simp [hc]
theorem all_not (s : ByteArray) (k : Nat) (h : k < s.size) (hc : ¬ nameB s[k] = true) : s.data.toList.all nameB = false := by
  rw [List.all_eq_false]
  exact ⟨s[k], List.mem_of_getElem? (at_list s k h), hc⟩
theorem nm_size (s : ByteArray) : s.data.toList.length = s.size := by simp
set_option maxHeartbeats 4000000 in
set_option maxRecDepth 100000 in
theorem isName_any (s : ByteArray) (w : World) :
    Calls Tryz.prog 203 #[.string s] w fun e w' => e = .returned (.bool (isNm s.data.toList)) ∧ w' = w := by
  by_cases hsz : 1 ≤ s.size ∧ s.size ≤ 32
  · have hno : ¬ (((s.size : Nat) : Int) < 1 ∨ 32 < ((s.size : Nat) : Int)) := by omega
    have e0 : isNm s.data.toList = s.data.toList.all nameB := by unfold isNm; rw [nm_size]; simp [hsz.1, hsz.2]
    rw [e0]
    obtain ⟨r, hr⟩ : ∃ r, r = s.data.toList.all nameB := ⟨_, rfl⟩
    rw [← hr]
    have HR : Hid (r = s.data.toList.all nameB) := hr
    clear hr e0
    go_enter Tryz.func203, Tryz.ntmps203
    go_wp2
    go_loopw [15] (fun v wr => ∃ i : Nat, v = .int .i64 i ∧ i ≤ s.size ∧ Hid ((s.data.toList.take i).all nameB = true) ∧ wr = w) (fun v _ => s.size - (intOf v).toNat)
    case atStart => exact ⟨0, rfl, Nat.zero_le _, rfl, rfl⟩
    case round =>
      obtain ⟨i, rfl, hi, HA, rfl⟩ := hrel
      by_cases hlt : i < s.size
      · have hn := nameB_iff s[i]
        have HT := fun h => all_take s i hlt h HA.out
        have HF := all_not s i hlt
        by_cases hb : nameB s[i] = true
        · have HT' : Hid ((s.data.toList.take (i + 1)).all nameB = true) := HT hb
          have HB := hn.1 hb
          clear HT HF hn hb HA
          go_wp2
          all_goals first
            | (exfalso; omega)
            | (exfalso; simp only [bne_eq_false_iff_eq] at *; omega)
            | (refine ⟨⟨i + 1, rfl, hlt, HT', trivial⟩, ?_⟩; simp only [intOf]; omega)
        · have HF' : Hid (r = false) := HR.out.trans (HF hb)
          have HB : ¬ ((97 ≤ s[i].toNat ∧ s[i].toNat ≤ 122) ∨ (48 ≤ s[i].toNat ∧ s[i].toNat ≤ 57) ∨ s[i].toNat = 46) := fun h => hb (hn.2 h)
          clear HT HF hn hb HA
          go_wp2
          all_goals first
            | (exfalso; omega)
            | (exfalso; simp only [bne_eq_false_iff_eq, bne_iff_ne, ne_eq] at *; omega)
            | (go_ret; exact ⟨ret_bool HF'.out.symm, rfl⟩)
      · have e : i = s.size := by omega
        subst e
        have HF' : Hid (r = true) := by
          have := HA.out; rw [List.take_of_length_le (by simp)] at this; exact HR.out.trans this
        go_wp2
        go_ret
        exact ⟨ret_bool HF'.out.symm, rfl⟩
  · have hno : ((s.size : Nat) : Int) < 1 ∨ 32 < ((s.size : Nat) : Int) := by omega
    have e0 : isNm s.data.toList = false := by unfold isNm; rw [nm_size]; simp; omega
    rw [e0]
    go_enter Tryz.func203, Tryz.ntmps203
    go_wp2
    all_goals first
      | (exfalso; omega)
      | (go_ret; exact ⟨rfl, rfl⟩)
theorem map_nil (w : World) (b : Nat) : (binOp BinOp.eql 36 (.map (some b)) (.map none)).run Tryz.prog w = .ok (.bool false) w := by kernel_rfl
/-- A pointer to a block. -/
abbrev Pt (p : Nat) : Value := .pointer (some ⟨p, 0, none⟩)
set_option maxHeartbeats 4000000 in
set_option maxRecDepth 100000 in
theorem self_any {p mb : Nat} {es : List Ent} {c : Ctl} (w : World) (h : DK w p mb es c) :
    Calls Tryz.prog 159 #[Pt p] w fun e w' => e = .returned (Pt p) ∧ w' = w := by
  obtain ⟨h0, _⟩ := h.cell
  have hq := map_nil w mb
  go_enter Tryz.func159, Tryz.ntmps159
  go_wp2
  go_ret
  exact ⟨rfl, rfl⟩
set_option maxHeartbeats 4000000 in
theorem down_any {p mb : Nat} {es : List Ent} {c : Ctl} (w : World) (h : DK w p mb es c) :
    Calls Tryz.prog 83 #[Pt p] w fun e w' => e = .returned (.bool c.off) ∧ w' = w := by
  obtain ⟨h0, h1, h2, h3, h4, h5, h6, h7⟩ := h.cell
  go_enter Tryz.func83, Tryz.ntmps83
  go_wp2_with fail
  refine (self_any w h).mono ?_
  rintro e w' ⟨rfl, rfl⟩
  go_wp2
  go_ret
  exact ⟨rfl, rfl⟩
set_option maxHeartbeats 4000000 in
theorem age_any {p mb : Nat} {es : List Ent} {c : Ctl} (w : World) (h : DK w p mb es c) :
    Calls Tryz.prog 191 #[Pt p] w fun e w' => e = .returned (.int .i64 c.age) ∧ w' = w := by
  obtain ⟨h0, h1, h2, h3, h4, h5, h6, h7⟩ := h.cell
  go_enter Tryz.func191, Tryz.ntmps191
  go_wp2_with fail
  refine (self_any w h).mono ?_
  rintro e w' ⟨rfl, rfl⟩
  go_wp2
  go_ret
  exact ⟨rfl, rfl⟩
/-- What check answers. -/
def ckE (c : Ctl) (n : List UInt8) : Int := if c.off then 45 else if isNm n then 0 else 40
set_option maxHeartbeats 4000000 in
set_option maxRecDepth 100000 in
theorem check_any {p mb : Nat} {es : List Ent} {c : Ctl} (s : ByteArray) (w : World) (h : DK w p mb es c) :
    Calls Tryz.prog 126 #[Pt p, .string s] w fun e w' => e = .returned (.int .i64 (ckE c s.data.toList)) ∧ w' = w := by
  have hd := down_any w h
  cases ho : c.off
  · rw [ho] at hd
    cases hn : isNm s.data.toList
    · rw [show ckE c s.data.toList = 40 by simp [ckE, ho, hn]]
      have hi := isName_any s w
      rw [hn] at hi
      go_enter Tryz.func126, Tryz.ntmps126
      go_wp2_with fail
      refine hd.mono ?_
      rintro e w' ⟨rfl, rfl⟩
      go_wp2_with fail
      refine hi.mono ?_
      rintro e w'' ⟨rfl, rfl⟩
      go_wp2
      go_ret
      exact ⟨rfl, rfl⟩
    · rw [show ckE c s.data.toList = 0 by simp [ckE, ho, hn]]
      have hi := isName_any s w
      rw [hn] at hi
      go_enter Tryz.func126, Tryz.ntmps126
      go_wp2_with fail
      refine hd.mono ?_
      rintro e w' ⟨rfl, rfl⟩
      go_wp2_with fail
      refine hi.mono ?_
      rintro e w'' ⟨rfl, rfl⟩
      go_wp2
      go_ret
      exact ⟨rfl, rfl⟩
  · rw [ho] at hd
    rw [show ckE c s.data.toList = 45 by simp [ckE, ho]]
    go_enter Tryz.func126, Tryz.ntmps126
    go_wp2_with fail
    refine hd.mono ?_
    rintro e w' ⟨rfl, rfl⟩
    go_wp2
    go_ret
    exact ⟨rfl, rfl⟩
/-- What find answers. -/
def fdE (es : List Ent) (c : Ctl) (n : List UInt8) : Int := if ckE c n = 0 then (match findE es n with | some _ => 0 | none => 42) else ckE c n
def fdP (es : List Ent) (c : Ctl) (n : List UInt8) : Value := if ckE c n = 0 then ptrOf es n else .pointer none
theorem ck_size {c : Ctl} {s : ByteArray} (hc : ckE c s.data.toList = 0) : c.off = false ∧ isNm s.data.toList = true ∧ s.size ≤ 32 := by
  unfold ckE at hc
  split at hc
  · omega
  · rename_i ho
    split at hc
    · rename_i hn
      have hn' := hn
      unfold isNm at hn
      rw [nm_size] at hn
      simp at hn
      exact ⟨by simpa using ho, hn', by omega⟩
    · omega
set_option maxHeartbeats 4000000 in
set_option maxRecDepth 100000 in
theorem find_any {p mb : Nat} {es : List Ent} {c : Ctl} (s : ByteArray) (w : World) (h : DK w p mb es c) :
    Calls Tryz.prog 65 #[Pt p, .string s] w fun e w' => e = .returned (.tuple #[fdP es c s.data.toList, .int .i64 (fdE es c s.data.toList)]) ∧ w' = w := by
  obtain ⟨h0, _⟩ := h.cell
  have hk := check_any s w h
  by_cases hc : ckE c s.data.toList = 0
  · have hl := h.look s (by have := (ck_size hc).2.2; unfold maxLen; omega)
    rw [hc] at hk
    cases hf : findE es s.data.toList with
    | none =>
      rw [show fdP es c s.data.toList = .pointer none by simp [fdP, hc, ptrOf, hf], show fdE es c s.data.toList = 42 by simp [fdE, hc, hf]]
      rw [show ptrOf es s.data.toList = .pointer none by simp [ptrOf, hf]] at hl
      go_enter Tryz.func65, Tryz.ntmps65
      go_wp2_with fail
      refine hk.mono ?_
      rintro e w' ⟨rfl, rfl⟩
      go_wp2
      go_ret2
      exact ⟨rfl, rfl⟩
    | some e =>
      rw [show fdP es c s.data.toList = Pt e.fb by simp [fdP, hc, ptrOf, hf], show fdE es c s.data.toList = 0 by simp [fdE, hc, hf]]
      rw [show ptrOf es s.data.toList = Pt e.fb by simp [ptrOf, hf]] at hl
      go_enter Tryz.func65, Tryz.ntmps65
      go_wp2_with fail
      refine hk.mono ?_
      rintro e w' ⟨rfl, rfl⟩
      go_wp2
      go_ret2
      exact ⟨rfl, rfl⟩
  · rw [show fdP es c s.data.toList = .pointer none by simp [fdP, hc], show fdE es c s.data.toList = ckE c s.data.toList by simp [fdE, hc]]
    generalize ckE c s.data.toList = x at *
    go_enter Tryz.func65, Tryz.ntmps65
    go_wp2_with fail
    refine hk.mono ?_
    rintro e w' ⟨rfl, rfl⟩
    go_wp2
    go_ret2
    exact ⟨rfl, rfl⟩
end Go.Proofs.YtkaiecdbcfjemaaGreatDoor
