/-
  DERIVED. DName, DWrite, DClone, DCreate, DSync, as one text.
-/
import Derived.Test.YtcamnalmcghjfaaGreatDoorTzAA
import Derived.Lib.UnsafeStr
import Derived.Lib.BufferWrite
import Derived.Laws.MakeOwn
namespace Go.Proofs.YtcamnalmcghjfaaGreatDoor.Dk
open Go.RowKit Go.Maps Go.Proofs.DiskMath
theorem nameB_iff (c : UInt8) : nameB c = true ↔ ((97 ≤ c.toNat ∧ c.toNat ≤ 122) ∨ (48 ≤ c.toNat ∧ c.toNat ≤ 57) ∨ c.toNat = 46) := by
  unfold nameB
  simp [or_assoc]
theorem at_list (s : ByteArray) (k : Nat) (h : k < s.size) : s.data.toList[k]? = some s[k] := by
  rw [Array.getElem?_toList, Array.getElem?_eq_getElem h]; rfl
theorem all_take (s : ByteArray) (k : Nat) (h : k < s.size) (hc : nameB s[k] = true) (ha : (s.data.toList.take k).all nameB = true) : (s.data.toList.take (k + 1)).all nameB = true := by
  have h' : k < s.data.toList.length := by simpa using h
  rw [List.take_succ_eq_append_getElem h', List.all_append, ha, Bool.true_and]
  have : s.data.toList[k] = s[k] := by
    have := at_list s k h
    rw [List.getElem?_eq_getElem h'] at this
    exact Option.some.inj this
  rw [this]; simp [hc]
theorem all_not (s : ByteArray) (k : Nat) (h : k < s.size) (hc : ¬ nameB s[k] = true) : s.data.toList.all nameB = false := by
  rw [List.all_eq_false]
  exact ⟨s[k], List.mem_of_getElem? (at_list s k h), hc⟩
set_option maxHeartbeats 4000000 in
set_option maxRecDepth 100000 in
theorem isName_any (s : ByteArray) (w : World) :
    Calls Tryz.prog 69 #[.string s] w fun e w' => e = .returned (.bool (isNm s.data.toList)) ∧ w' = w := by
  by_cases hsz : 1 ≤ s.size ∧ s.size ≤ 32
  · have hno : ¬ (((s.size : Nat) : Int) < 1 ∨ 32 < ((s.size : Nat) : Int)) := by omega
    have e0 : isNm s.data.toList = s.data.toList.all nameB := by unfold isNm; rw [nm_size]; simp [hsz.1, hsz.2]
    rw [e0]
    obtain ⟨r, hr⟩ : ∃ r, r = s.data.toList.all nameB := ⟨_, rfl⟩
    rw [← hr]
    have HR : Hid (r = s.data.toList.all nameB) := hr
    clear hr e0
    go_enter Tryz.func69, Tryz.ntmps69
    go_wp2
    go_loopw [15] (fun v wr => ∃ i : Nat, v = .int .i64 i ∧ i ≤ s.size ∧ Hid ((s.data.toList.take i).all nameB = true) ∧ wr = w) (fun v _ => s.size - (intOf v).toNat)
    case atStart => exact ⟨0, rfl, Nat.zero_le _, rfl, rfl⟩
    case round =>
      obtain ⟨i, rfl, hi, HA, rfl⟩ := hrel
      by_cases hlt : i < s.size
      · have hn := nameB_iff s[i]
        have HT := fun h => all_take s i hlt h HA.out
        have HF := all_not s i hlt
        by_cases hb : nameB s[i] = true
        · have HT' : Hid ((s.data.toList.take (i + 1)).all nameB = true) := HT hb
          have HB := hn.1 hb
          clear HT HF hn hb HA
          go_wp2
          all_goals first
            | (exfalso; omega)
            | (exfalso; simp only [bne_eq_false_iff_eq] at *; omega)
            | (refine ⟨⟨i + 1, rfl, hlt, HT', trivial⟩, ?_⟩; simp only [intOf]; omega)
        · have HF' : Hid (r = false) := HR.out.trans (HF hb)
          have HB : ¬ ((97 ≤ s[i].toNat ∧ s[i].toNat ≤ 122) ∨ (48 ≤ s[i].toNat ∧ s[i].toNat ≤ 57) ∨ s[i].toNat = 46) := fun h => hb (hn.2 h)
          clear HT HF hn hb HA
          go_wp2
          all_goals first
            | (exfalso; omega)
            | (exfalso; simp only [bne_eq_false_iff_eq, bne_iff_ne, ne_eq] at *; omega)
            | (go_ret; exact ⟨ret_bool HF'.out.symm, rfl⟩)
      · have e : i = s.size := by omega
        subst e
        have HF' : Hid (r = true) := by
          have := HA.out; rw [List.take_of_length_le (by simp)] at this; exact HR.out.trans this
        go_wp2
        go_ret
        exact ⟨ret_bool HF'.out.symm, rfl⟩
  · have hno : ((s.size : Nat) : Int) < 1 ∨ 32 < ((s.size : Nat) : Int) := by omega
    have e0 : isNm s.data.toList = false := by unfold isNm; rw [nm_size]; simp; omega
    rw [e0]
    go_enter Tryz.func69, Tryz.ntmps69
    go_wp2
    all_goals first
      | (exfalso; omega)
      | (go_ret; exact ⟨rfl, rfl⟩)
theorem map_nil (w : World) (b : Nat) : (binOp BinOp.eql 51 (.map (some b)) (.map none)).run Tryz.prog w = .ok (.bool false) w := by kernel_rfl
set_option maxHeartbeats 4000000 in
set_option maxRecDepth 100000 in
theorem self_any {p mb : Nat} {es : List Ent} {c : Ctl} (w : World) (h : DK w p mb es c) :
    Calls Tryz.prog 26 #[Pt p] w fun e w' => e = .returned (Pt p) ∧ w' = w := by
  obtain ⟨h0, _⟩ := h.cell
  have hq := map_nil w mb
  go_enter Tryz.func26, Tryz.ntmps26
  go_wp2
  go_ret
  exact ⟨rfl, rfl⟩
set_option maxHeartbeats 4000000 in
theorem down_any {p mb : Nat} {es : List Ent} {c : Ctl} (w : World) (h : DK w p mb es c) :
    Calls Tryz.prog 25 #[Pt p] w fun e w' => e = .returned (.bool c.off) ∧ w' = w := by
  obtain ⟨h0, h1, h2, h3, h4, h5, h6, h7⟩ := h.cell
  go_enter Tryz.func25, Tryz.ntmps25
  go_wp2_with fail
  refine (self_any w h).mono ?_
  rintro e w' ⟨rfl, rfl⟩
  go_wp2
  go_ret
  exact ⟨rfl, rfl⟩
set_option maxHeartbeats 4000000 in
set_option maxHeartbeats 4000000 in
theorem writes_any {p mb : Nat} {es : List Ent} {c : Ctl} (w : World) (h : DK w p mb es c) :
    Calls Tryz.prog 16 #[Pt p] w fun e w' => e = .returned (.int .i64 c.wr) ∧ w' = w := by
  obtain ⟨h0, h1, h2, h3, h4, h5, h6, h7⟩ := h.cell
  go_enter Tryz.func16, Tryz.ntmps16
  go_wp2_with fail
  refine (self_any w h).mono ?_
  rintro e w' ⟨rfl, rfl⟩
  go_wp2
  go_ret
  exact ⟨rfl, rfl⟩
/-- What check answers. -/
def ckE (c : Ctl) (n : List UInt8) : Int := if c.off then 45 else if isNm n then 0 else 40
set_option maxHeartbeats 4000000 in
set_option maxRecDepth 100000 in
theorem check_any {p mb : Nat} {es : List Ent} {c : Ctl} (s : ByteArray) (w : World) (h : DK w p mb es c) :
    Calls Tryz.prog 48 #[Pt p, .string s] w fun e w' => e = .returned (.int .i64 (ckE c s.data.toList)) ∧ w' = w := by
  have hd := down_any w h
  cases ho : c.off
  · rw [ho] at hd
    cases hn : isNm s.data.toList
    · rw [show ckE c s.data.toList = 40 by simp [ckE, ho, hn]]
      have hi := isName_any s w
      rw [hn] at hi
      go_enter Tryz.func48, Tryz.ntmps48
      go_wp2_with fail
      refine hd.mono ?_
      rintro e w' ⟨rfl, rfl⟩
      go_wp2_with fail
      refine hi.mono ?_
      rintro e w'' ⟨rfl, rfl⟩
      go_wp2
      go_ret
      exact ⟨rfl, rfl⟩
    · rw [show ckE c s.data.toList = 0 by simp [ckE, ho, hn]]
      have hi := isName_any s w
      rw [hn] at hi
      go_enter Tryz.func48, Tryz.ntmps48
      go_wp2_with fail
      refine hd.mono ?_
      rintro e w' ⟨rfl, rfl⟩
      go_wp2_with fail
      refine hi.mono ?_
      rintro e w'' ⟨rfl, rfl⟩
      go_wp2
      go_ret
      exact ⟨rfl, rfl⟩
  · rw [ho] at hd
    rw [show ckE c s.data.toList = 45 by simp [ckE, ho]]
    go_enter Tryz.func48, Tryz.ntmps48
    go_wp2_with fail
    refine hd.mono ?_
    rintro e w' ⟨rfl, rfl⟩
    go_wp2
    go_ret
    exact ⟨rfl, rfl⟩
/-- What find answers. -/
def fdE (es : List Ent) (c : Ctl) (n : List UInt8) : Int := if ckE c n = 0 then (match findE es n with | some _ => 0 | none => 42) else ckE c n
def fdP (es : List Ent) (c : Ctl) (n : List UInt8) : Value := if ckE c n = 0 then ptrOf es n else .pointer none
theorem ck_size {c : Ctl} {s : ByteArray} (hc : ckE c s.data.toList = 0) : c.off = false ∧ isNm s.data.toList = true ∧ s.size ≤ 32 := by
  unfold ckE at hc
  split at hc
  · omega
  · rename_i ho
    split at hc
    · rename_i hn
      have hn' := hn
      unfold isNm at hn
      rw [nm_size] at hn
      simp at hn
      exact ⟨by simpa using ho, hn', by omega⟩
    · omega
set_option maxHeartbeats 4000000 in
set_option maxRecDepth 100000 in
theorem find_any {p mb : Nat} {es : List Ent} {c : Ctl} (s : ByteArray) (w : World) (h : DK w p mb es c) :
    Calls Tryz.prog 59 #[Pt p, .string s] w fun e w' => e = .returned (.tuple #[fdP es c s.data.toList, .int .i64 (fdE es c s.data.toList)]) ∧ w' = w := by
  obtain ⟨h0, _⟩ := h.cell
  have hk := check_any s w h
  by_cases hc : ckE c s.data.toList = 0
  · have hl := h.look s (by have := (ck_size hc).2.2; unfold maxLen; omega)
    rw [hc] at hk
    cases hf : findE es s.data.toList with
    | none =>
      rw [show fdP es c s.data.toList = .pointer none by simp [fdP, hc, ptrOf, hf], show fdE es c s.data.toList = 42 by simp [fdE, hc, hf]]
      rw [show ptrOf es s.data.toList = .pointer none by simp [ptrOf, hf]] at hl
      go_enter Tryz.func59, Tryz.ntmps59
      go_wp2_with fail
      refine hk.mono ?_
      rintro e w' ⟨rfl, rfl⟩
      go_wp2
      go_ret2
      exact ⟨rfl, rfl⟩
    | some e =>
      rw [show fdP es c s.data.toList = Pt e.fb by simp [fdP, hc, ptrOf, hf], show fdE es c s.data.toList = 0 by simp [fdE, hc, hf]]
      rw [show ptrOf es s.data.toList = Pt e.fb by simp [ptrOf, hf]] at hl
      go_enter Tryz.func59, Tryz.ntmps59
      go_wp2_with fail
      refine hk.mono ?_
      rintro e w' ⟨rfl, rfl⟩
      go_wp2
      go_ret2
      exact ⟨rfl, rfl⟩
  · rw [show fdP es c s.data.toList = .pointer none by simp [fdP, hc], show fdE es c s.data.toList = ckE c s.data.toList by simp [fdE, hc]]
    generalize ckE c s.data.toList = x at *
    go_enter Tryz.func59, Tryz.ntmps59
    go_wp2_with fail
    refine hk.mono ?_
    rintro e w' ⟨rfl, rfl⟩
    go_wp2
    go_ret2
    exact ⟨rfl, rfl⟩
end Go.Proofs.YtcamnalmcghjfaaGreatDoor.Dk
namespace Go.Proofs.YtcamnalmcghjfaaGreatDoor.Dk
open Go.RowKit Go.Maps Go.Proofs.DiskMath
theorem map_block {w : World} {mb n : Nat} {D : DataW Unit} (h : w.ownsMap Tryz.prog 9 ptrE mb n D) : ∃ es cl, w.heap[mb]? = some (.map es cl) := by
  obtain ⟨es, cl, hb, _⟩ := h; exact ⟨es, cl, hb⟩
theorem DK.p_mb {w : World} {p mb : Nat} {es : List Ent} {c : Ctl} (h : DK w p mb es c) : mb ≠ p := fun e => by
  obtain ⟨a, b, hb⟩ := map_block h.hm
  rw [e, h.hp] at hb; cases hb
theorem DK.p_foot {w : World} {p mb : Nat} {es : List Ent} {c : Ctl} (h : DK w p mb es c) {e : Ent} (he : e ∈ es) : ¬ foot e p := by
  rintro (hk | hk)
  · have := (h.hf e he).cells; rw [← hk, h.hp] at this; simp at this
  · obtain ⟨cur, hb⟩ := row_block (h.hf e he).row hk
    rw [h.hp] at hb; cases hb
theorem DK.mb_foot {w : World} {p mb : Nat} {es : List Ent} {c : Ctl} (h : DK w p mb es c) {e : Ent} (he : e ∈ es) : ¬ foot e mb := by
  obtain ⟨a, b, hm⟩ := map_block h.hm
  rintro (hk | hk)
  · have := (h.hf e he).cells; rw [← hk, hm] at this; cases this
  · obtain ⟨cur, hb⟩ := row_block (h.hf e he).row hk
    rw [hm] at hb; cases hb
/-- The disk with other numbers. -/
theorem DK.set {w W : World} {p mb : Nat} {es : List Ent} {c : Ctl} (h : DK w p mb es c) (s : Stay (· = p) w W) (c' : Ctl) (hcap : c'.cap = c.cap) (hl : c'.left < 9223372036854775808) (ha : (Lit.int .i64 c'.age).wf = true) (hw : (Lit.int .i64 c'.wr).wf = true)
    (hp : W.heap[p]? = some (.cells #[.map (some mb), .int .i64 c'.cap, .int .i64 (used es), .bool c'.off, .int .i64 c'.left, .bool c'.dn, .int .i64 c'.age, .int .i64 c'.wr] 53 (0, 0))) : DK W p mb es c' :=
  { h with
    hp := hp
    hm := map_kept h.hm s h.p_mb
    hf := fun e he => (h.hf e he).kept s fun k hk hkp => h.p_foot he (hkp ▸ hk)
    full := by rw [hcap]; exact h.full
    cap := by rw [hcap]; exact h.cap
    left := hl
    age := ha
    wr := hw }
/-- The numbers behind an accepted write. -/
def tick (c : Ctl) : Ctl := { c with wr := wrap64 (c.wr + 1), off := c.left == 1, left := c.left - 1 }
set_option maxHeartbeats 4000000 in
set_option maxRecDepth 100000 in
theorem write_case {p mb : Nat} {es : List Ent} {c : Ctl} (w : World) (h : DK w p mb es c) (lasts : Bool) (f : FuncId) (caps : Array Value) (hcf : ∀ W : World, (callFunc f caps).run Tryz.prog W = .ok (.enter f caps) W) (Q : World → Prop) (b : Bool) (l E : Int)
    (hb : ((c.left : Int) == 1) = b) (hb' : (c.left == 1) = b) (hl : ((c.left - 1 : Nat) : Int) = l) (hE : (if c.left = 1 then 45 else 0) = E) (hc : (c.left = 0 ∧ l = 0) ∨ (1 ≤ c.left ∧ l = (c.left : Int) - 1))
    (hdo : (lasts = true ∨ b = false) → ∀ W, DK W p mb es (tick c) → Stay (· = p) w W → Calls Tryz.prog f caps W fun e w' => e = .returned (.tuple #[]) ∧ Q w')
    (hno : lasts = false → b = true → ∀ W, DK W p mb es (tick c) → Stay (· = p) w W → Q W)
    (hQ : ∀ W, Q W → W.cell? ⟨p, 3, none⟩ = some (.bool b)) :
    Calls Tryz.prog 49 #[Pt p, .bool lasts, .func (.func f) #[] caps] w fun e w' => e = .returned (.int .i64 E) ∧ Q w' := by
  obtain ⟨h0, h1, h2, h3, h4, h5, h6, h7⟩ := h.cell
  have z3 := h.frz 3
  have z4 := h.frz 4
  have z7 := h.frz 7
  have hlt := h.left
  have sW : Stay (· = p) w (((w.setCell ⟨p, 7, none⟩ (.int .i64 (wrap64 (c.wr + 1)))).setCell ⟨p, 3, none⟩ (.bool b)).setCell ⟨p, 4, none⟩ (.int .i64 l)) :=
    (((Stay.refl (· = p) w).setCell (p := ⟨p, 7, none⟩) (fun _ => rfl) _).setCell (p := ⟨p, 3, none⟩) (fun _ => rfl) _).setCell (p := ⟨p, 4, none⟩) (fun _ => rfl) _
  have dW : DK (((w.setCell ⟨p, 7, none⟩ (.int .i64 (wrap64 (c.wr + 1)))).setCell ⟨p, 3, none⟩ (.bool b)).setCell ⟨p, 4, none⟩ (.int .i64 l)) p mb es (tick c) := by
    refine h.set sW (tick c) rfl (by unfold tick; dsimp only; omega) h.age (wrap64_wf _) ?_
    rw [heap_setCell_same _ _ _ _ _ _ (heap_setCell_same _ _ _ _ _ _ (heap_setCell_same _ _ _ _ _ _ h.hp))]
    unfold tick
    rw [hb', hl]
    rfl
  have hd := fun hl => hdo hl _ dW sW
  have hn := fun h1 h2 => hno h1 h2 _ dW sW
  have h3' : ∀ v x : Value, ((w.setCell ⟨p, 7, none⟩ v).setCell ⟨p, 3, none⟩ (.bool b)).cell? ⟨p, 3, none⟩ = some (.bool b) := fun v _ => by
    obtain ⟨v', hv'⟩ := cell?_setCell_some (p := ⟨p, 7, none⟩) (x := v) h3
    exact World.cell?_setCell_same _ _ _ hv'
  have HE : Hid ((if c.left = 1 then 45 else 0) = E) := hE
  clear hdo hno sW dW hE
  generalize c.left = L at *
  cases lasts
  · cases b
    · have hd2 := hd (.inr rfl)
      clear hd hn
      have hE0 : E = 0 := by rw [← HE.out, if_neg]; intro e; simp [e] at hb'
      subst hE0
      rcases hc with ⟨rfl, rfl⟩ | ⟨h1L, rfl⟩
      · go_enter Tryz.func49, Tryz.ntmps49
        go_wp2_with fail
        refine hd2.mono ?_
        rintro e w1 ⟨rfl, q1⟩
        have c3 := hQ w1 q1
        go_wp2
        go_ret
        exact ⟨rfl, q1⟩
      · go_enter Tryz.func49, Tryz.ntmps49
        go_wp2_with fail
        refine hd2.mono ?_
        rintro e w1 ⟨rfl, q1⟩
        have c3 := hQ w1 q1
        go_wp2
        go_ret
        exact ⟨rfl, q1⟩
    · have q1 := hn rfl rfl
      clear hd hn
      have hE0 : E = 45 := by rw [← HE.out, if_pos]; simpa using hb'
      subst hE0
      rcases hc with ⟨rfl, rfl⟩ | ⟨h1L, rfl⟩
      · simp at hb
      · go_enter Tryz.func49, Tryz.ntmps49
        go_wp2
        go_ret
        exact ⟨rfl, q1⟩
  · have hd2 := hd (.inl rfl)
    clear hd hn
    rcases hc with ⟨rfl, rfl⟩ | ⟨h1L, rfl⟩
    · have hE0 : E = 0 := by rw [← HE.out, if_neg]; omega
      subst hE0
      cases b
      · go_enter Tryz.func49, Tryz.ntmps49
        go_wp2_with fail
        refine hd2.mono ?_
        rintro e w1 ⟨rfl, q1⟩
        have c3 := hQ w1 q1
        go_wp2
        go_ret
        exact ⟨rfl, q1⟩
      · simp at hb
    · go_enter Tryz.func49, Tryz.ntmps49
      go_wp2_with fail
      refine hd2.mono ?_
      rintro e w1 ⟨rfl, q1⟩
      have c3 := hQ w1 q1
      cases b
      · have hE0 : E = 0 := by rw [← HE.out, if_neg]; intro e; simp [e] at hb'
        subst hE0
        go_wp2
        go_ret
        exact ⟨rfl, q1⟩
      · have hE0 : E = 45 := by rw [← HE.out, if_pos]; simpa using hb'
        subst hE0
        go_wp2
        go_ret
        exact ⟨rfl, q1⟩
theorem write_any {p mb : Nat} {es : List Ent} {c : Ctl} (w : World) (h : DK w p mb es c) (lasts : Bool) (f : FuncId) (caps : Array Value) (hcf : ∀ W : World, (callFunc f caps).run Tryz.prog W = .ok (.enter f caps) W) (Q : World → Prop)
    (hdo : (lasts = true ∨ (c.left == 1) = false) → ∀ W, DK W p mb es (tick c) → Stay (· = p) w W → Calls Tryz.prog f caps W fun e w' => e = .returned (.tuple #[]) ∧ Q w')
    (hno : lasts = false → (c.left == 1) = true → ∀ W, DK W p mb es (tick c) → Stay (· = p) w W → Q W)
    (hQ : ∀ W, Q W → W.cell? ⟨p, 3, none⟩ = some (.bool (c.left == 1))) :
    Calls Tryz.prog 49 #[Pt p, .bool lasts, .func (.func f) #[] caps] w fun e w' => e = .returned (.int .i64 (if c.left = 1 then 45 else 0)) ∧ Q w' := by
  refine write_case w h lasts f caps hcf Q _ _ _ ?_ rfl rfl rfl ?_ hdo hno hQ
  · rw [Bool.eq_iff_iff, beq_iff_eq, beq_iff_eq]; omega
  · omega
end Go.Proofs.YtcamnalmcghjfaaGreatDoor.Dk
namespace Go.Proofs.YtcamnalmcghjfaaGreatDoor.Dk
open Go.RowKit
set_option maxHeartbeats 4000000 in
set_option maxRecDepth 100000 in
theorem lite_any (s : ByteArray) (w : World) (hs : s.size ≤ 65536) :
    Calls Tryz.prog 70 #[.string s] w fun e w' => e = .returned (.string s) ∧ Below w.heap.size w w' := by
  by_cases h0 : s.size = 0
  · obtain rfl : s = ⟨#[]⟩ := ByteArray.ext (Array.eq_empty_of_size_eq_zero h0)
    go_enter Tryz.func70, Tryz.ntmps70
    go_wp2
    go_ret
    exact ⟨rfl, Below.refl _ _⟩
  · obtain ⟨i0, hi, hz0, hz1, hz2⟩ := info_parts Tryz.info5
    obtain ⟨M, hM⟩ : ∃ M, M = madeCells (Value.int .u8 0).cells (((s.size : Nat) : Int).toNat * i0.size) := ⟨_, rfl⟩
    have hMs : M.size = s.size := by rw [hM, size_madeCells, hz1]; simp
    have hmk : ∀ W : World, (Instr.makeSlice 64 (.int .i64 (s.size : Int)) (.int .i64 (s.size : Int))).run Tryz.prog W = .ok (.slice (some ⟨W.heap.size, 0, none⟩) s.size s.size) (W.alloc (.cells M 5)) := fun W => by
      have h := run_make (P := Tryz.prog) W 64 5 i0 (.int .u8 0) Tryz.underlying64 hi hz0 .i64 .i64 (s.size : Int) (s.size : Int) (by omega) (by omega) (by rw [hz2]; omega) (by omega)
      rw [← hM] at h
      simpa using h
    clear hM
    have hcp := Lib.run_copy_row_string (P := Tryz.prog) (w.alloc (.cells M 5)) 64 9 3 5 w.heap.size 0 s.size s.size s M 5 Tryz.underlying64 (by rw [hi]; simp [hz1]) (heap_alloc_new w _) (Nat.le_refl _) (by omega)
    obtain ⟨Y, hY⟩ : ∃ Y, Y = (M.toList.take 0 ++ Lib.byteCells s.data.toList ++ M.toList.drop (0 + s.size)).toArray := ⟨_, rfl⟩
    rw [← hY] at hcp
    have hYl : Y.toList = Lib.byteCells s.data.toList := by
      rw [hY, List.toList_toArray, List.take_zero, List.nil_append, List.drop_of_length_le (by rw [Array.length_toList]; omega), List.append_nil]
    have hYs : Y.size = s.size := by rw [← Array.length_toList, hYl, Lib.byteCells_length, ← Lib.size_eq]
    have hgY : ((w.alloc (.cells M 5)).setRow w.heap.size Y).heap[w.heap.size]? = some (.cells Y 5 (0, 0)) := setRow_heap _ _ M _ 5 (0, 0) (heap_alloc_new w _)
    have hUS := Lib.run_unsafeString_row (P := Tryz.prog) ((w.alloc (.cells M 5)).setRow w.heap.size Y) 106 3 9 5 Tryz.underlying106 (by simp [Program.cellsOf, hi, hz1]) w.heap.size Y.size (by unfold World.shape?; rw [hgY]) s.data.toList (fun e => h0 (by rw [Lib.size_eq, e]; rfl)) (by rw [← Lib.size_eq]; omega) (by rw [← Lib.size_eq]; omega)
      (fun j x hx => Lib.cells_of_row hgY Y.size j _ (by rw [List.take_of_length_le (by rw [Array.length_toList]; exact Nat.le_refl _), hYl]; simp [Lib.byteCells, hx]))
    rw [← Lib.size_eq] at hUS
    clear hY
    go_enter Tryz.func70, Tryz.ntmps70
    go_wp2
    go_ret
    have hb2 : Below w.heap.size (w.alloc (.cells M 5)) ((w.alloc (.cells M 5)).setRow w.heap.size Y) := ⟨rfl, rfl, rfl, by simp, fun k hk => setRow_other _ _ _ _ (by omega)⟩
    exact ⟨rfl, Lib.below_freeze (((Below.refl _ w).alloc (Nat.le_refl _) _).trans hb2) (p := ⟨w.heap.size, 0, none⟩) (Nat.le_refl _) _⟩
theorem clone_any (s : ByteArray) (w : World) (hs : s.size ≤ 65536) :
    Calls Tryz.prog 51 #[.string s] w fun e w' => e = .returned (.string s) ∧ Below w.heap.size w w' := by
  go_enter Tryz.func51, Tryz.ntmps51
  go_wp2_with fail
  refine (lite_any s _ hs).mono ?_
  rintro e w1 ⟨rfl, b1⟩
  go_wp2
  go_ret
  exact ⟨rfl, b1⟩
end Go.Proofs.YtcamnalmcghjfaaGreatDoor.Dk
namespace Go.Proofs.YtcamnalmcghjfaaGreatDoor.Dk
open Go.RowKit Go.Maps Go.Proofs.DiskMath
/-- A store into the map. -/
theorem store_eq {w : World} {mb n : Nat} {es : List Ent} (h : w.ownsMap Tryz.prog 9 ptrE mb n (dmap es)) (hn : n ≤ 4096) (s : ByteArray) (hs : s.size ≤ 32) (x : Ent) (hx : x.nm = s.data.toList) :
    ∃ w', (Instr.mapUpdate 51 (.map (some mb)) (.string s) (Pt x.fb)).run Tryz.prog w = .ok () w' ∧ w'.ownsMap Tryz.prog 9 ptrE mb (n + 1) (dmap (insE x (delE es x.nm))) ∧ w.grownBy w' (some mb) ∧ w'.heap.size = w.heap.size := by
  obtain ⟨w', hr, ho, ht⟩ := h.store (e := 62) law9 Tryz.underlying51 (by unfold maxLen; omega) (WideMaps.keyOf_string_mk Tryz.underlying9 (s := s) (by unfold maxLen; omega)) (ptrE_mk x.fb)
  refine ⟨w', hr, ?_, ht.grown, ?_⟩
  · rw [← hx, dmap_put] at ho; exact ho
  · obtain ⟨_, _, _, _, _, rfl⟩ := ht; simp [ChangeMaps.setBlock]
theorem insE_len (x : Ent) (es : List Ent) : (insE x es).length = es.length + 1 := (insE_perm x es).length_eq.trans (by simp)
/-- A disk with a file more. -/
theorem DK.ins {w W : World} {p mb : Nat} {es : List Ent} {c : Ctl} (h : DK w p mb es c) (x : Ent) (hno : findE es x.nm = none) (hnm : isNm x.nm = true) (hlen : es.length < 4096) (s : Stay (· = mb) w W)
    (hm : W.ownsMap Tryz.prog 9 ptrE mb (es.length + 1) (dmap (insE x (delE es x.nm)))) (hx : FileAt W x) (hda : x.da = []) (hfr : w.heap.size ≤ x.fb) (hv : x.v.ownBlock = none) : DK W p mb (insE x es) c := by
  rw [delE_of_none hno] at hm
  have hu : used (insE x es) = used es := by rw [used_ins, hda]; simp
  have hne : ∀ e ∈ es, e.nm ≠ x.nm := fun e he hh => by
    have := List.find?_eq_none.1 hno e he
    simp [hh] at this
  exact
  { hp := by rw [hu]; exact (s.block p (h.lt (.inl rfl)) (Ne.symm h.p_mb)).trans h.hp
    hm := by rw [insE_len]; exact hm
    hf := fun e he => by
      rcases insE_mem.1 he with rfl | he
      · exact hx
      · exact (h.hf e he).kept s fun k hk hkm => h.mb_foot he (hkm ▸ hk)
    sep := by
      refine ((insE_perm x es).pairwise_iff ?_).2 (List.pairwise_cons.2 ⟨fun e he => ⟨?_, ?_⟩, h.sep⟩)
      · exact fun {a b} hab => ⟨Ne.symm hab.1, fun k hb ha => hab.2 k ha hb⟩
      · have := h.lt (.inr (.inr ⟨e, he, .inl rfl⟩)); omega
      · intro k hk; rw [hv] at hk; cases hk
    srt := h.srt.ins hne
    nms := fun e he => by
      rcases insE_mem.1 he with rfl | he
      · exact hnm
      · exact h.nms e he
    many := by rw [insE_len]; omega
    full := by rw [hu]; exact h.full
    cap := h.cap
    left := h.left
    age := h.age
    wr := h.wr }
/-- A file that was made just now. -/
def newE (n : List UInt8) (fb : Nat) : Ent := ⟨n, [], 0, fb, .slice none 0 0⟩
theorem newE_at {w : World} {n : List UInt8} {fb : Nat} (h : w.heap[fb]? = some (.cells #[.slice none 0 0, .int .i64 0] 66 (0, 0))) : FileAt w (newE n fb) :=
  ⟨h, World.ownsRow_nil _ _ _ _, Nat.le_refl _, Nat.zero_le _⟩
theorem cell_alloc {w : World} {a : Addr} {v : Value} (h : w.cell? a = some v) (o : Obj) : (w.alloc o).cell? a = some v :=
  (((Below.refl w.heap.size w).alloc (Nat.le_refl _) o).cell (World.block_lt_of_cell? w _ h)).trans h
theorem below_after {w w1 : World} {o : Obj} (b : Below (w.alloc o).drew.heap.size (w.alloc o).drew w1) : Below w.heap.size w w1 :=
  (((Below.refl w.heap.size w).alloc (Nat.le_refl _) o).drew).trans (b.mono (by show w.heap.size ≤ (w.alloc o).heap.size; simp))
/-- What a store has done. -/
def Put (w w' : World) (mb n : Nat) (es : List Ent) : Prop := w'.ownsMap Tryz.prog 9 ptrE mb n (dmap es) ∧ w.grownBy w' (some mb) ∧ w'.heap.size = w.heap.size
theorem store_two {w1 : World} {p mb : Nat} {es : List Ent} {c : Ctl} (d1 : DK w1 p mb es c) (s : ByteArray) (hs : s.size ≤ 32) (H : Nat) :
    ∃ w2 w3, (Instr.mapUpdate 51 (.map (some mb)) (.string s) (.pointer (some ⟨w1.heap.size, 0, none⟩))).run Tryz.prog (w1.alloc (.cells #[.slice none 0 0, .int .i64 0] 66)) = .ok () w2 ∧
      (Instr.mapUpdate 51 (.map (some mb)) (.string s) (.pointer (some ⟨H, 0, none⟩))).run Tryz.prog w1 = .ok () w3 ∧
      Put (w1.alloc (.cells #[.slice none 0 0, .int .i64 0] 66)) w2 mb (es.length + 1) (insE (newE s.data.toList w1.heap.size) (delE es s.data.toList)) ∧
      Put w1 w3 mb (es.length + 1) (insE (newE s.data.toList H) (delE es s.data.toList)) := by
  obtain ⟨w2, hu2, m2, g2, s2⟩ := store_eq (d1.hm.alloc (.cells #[.slice none 0 0, .int .i64 0] 66)) d1.many s hs (newE s.data.toList w1.heap.size) rfl
  obtain ⟨w3, hu3, m3, g3, s3⟩ := store_eq d1.hm d1.many s hs (newE s.data.toList H) rfl
  exact ⟨w2, w3, hu2, hu3, ⟨m2, g2, s2⟩, ⟨m3, g3, s3⟩⟩
theorem fin_a {w w1 w2 : World} {p mb : Nat} {es : List Ent} {c : Ctl} {n : List UInt8} (bw : Below w.heap.size w w1) (d1 : DK w1 p mb es c)
    (m : Put (w1.alloc (.cells #[.slice none 0 0, .int .i64 0] 66)) w2 mb (es.length + 1) (insE (newE n w1.heap.size) (delE es n))) (hno : findE es n = none) (hnm : isNm n = true) (hlen : es.length < 4096) :
    ∃ fb, w.heap.size ≤ fb ∧ DK w2 p mb (insE (newE n fb) es) c ∧ Stay (· = mb) w w2 := by
  have s2 : Stay (· = mb) w1 w2 := ((Stay.refl _ w1).alloc _).trans (.grown m.2.1 (by simp))
  refine ⟨w1.heap.size, bw.size, d1.ins (newE n w1.heap.size) hno hnm hlen s2 m.1 (newE_at ?_) rfl (Nat.le_refl _) rfl, (Stay.below bw).trans s2⟩
  have hne : w1.heap.size ≠ mb := fun e => by have := d1.hm.lt; omega
  rw [m.2.1.block w1.heap.size (by simp) (fun e => hne (Option.some.inj e))]
  exact heap_alloc_new w1 _
theorem fin_b {w w1 w2 : World} {p mb : Nat} {es : List Ent} {c : Ctl} {n : List UInt8} (b1 : Below (w.alloc (.cells #[.slice none 0 0, .int .i64 0] 66)).drew.heap.size (w.alloc (.cells #[.slice none 0 0, .int .i64 0] 66)).drew w1) (bw : Below w.heap.size w w1) (_d1 : DK w1 p mb es c) (hmb : mb < w.heap.size)
    (m : Put w1 w2 mb (es.length + 1) (insE (newE n w.heap.size) (delE es n))) (hno : findE es n = none) (hnm : isNm n = true) (hlen : es.length < 4096) (h : DK w p mb es c) :
    ∃ fb, w.heap.size ≤ fb ∧ DK w2 p mb (insE (newE n fb) es) c ∧ Stay (· = mb) w w2 := by
  have s2 : Stay (· = mb) w1 w2 := .grown m.2.1 (by simp)
  have s3 : Stay (· = mb) w w2 := (Stay.below bw).trans s2
  refine ⟨w.heap.size, Nat.le_refl _, h.ins (newE n w.heap.size) hno hnm hlen s3 m.1 (newE_at ?_) rfl (Nat.le_refl _) rfl, s3⟩
  have hlt : w.heap.size < (w.alloc (.cells #[.slice none 0 0, .int .i64 0] 66)).heap.size := by simp
  rw [m.2.1.block w.heap.size (Nat.lt_of_lt_of_le hlt b1.size) (fun e => by have := Option.some.inj e; omega), b1.block _ hlt]
  exact heap_alloc_new w _
set_option maxHeartbeats 4000000 in
set_option maxRecDepth 100000 in
theorem create1_any {p mb : Nat} {es : List Ent} {c : Ctl} (s : ByteArray) (bd bn : Nat) (w : World) (h : DK w p mb es c) (hd : w.cell? ⟨bd, 0, none⟩ = some (Pt p)) (hn : w.cell? ⟨bn, 0, none⟩ = some (.string s))
    (hno : findE es s.data.toList = none) (hs : s.size ≤ 32) (hnm : isNm s.data.toList = true) (hlen : es.length < 4096) :
    Calls Tryz.prog 50 #[Pt bd, Pt bn] w fun e w' => e = .returned (.tuple #[]) ∧ ∃ fb, w.heap.size ≤ fb ∧ DK w' p mb (insE (newE s.data.toList fb) es) c ∧ Stay (· = mb) w w' := by
  obtain ⟨h0, _⟩ := h.cell
  go_enter Tryz.func50, Tryz.ntmps50
  go_wp2
  have lbd : bd < w.heap.size := World.block_lt_of_cell? w _ hd
  have lbn : bn < w.heap.size := World.block_lt_of_cell? w _ hn
  have lp : p < w.heap.size := World.block_lt_of_cell? w _ h0
  have hmb := h.hm.lt
  have ad := fun o => cell_alloc hd o
  have an := fun o => cell_alloc hn o
  have a0 := fun o => cell_alloc h0 o
  go_region_with (go_at_call 51; refine (clone_any s _ (by omega)).mono ?_; rintro e w1 ⟨rfl, b1⟩; have bw : Below w.heap.size w w1 := by {first | exact ⟨b1.os, b1.tape, b1.output, b1.size, b1.block⟩ | exact below_after b1}; have d1 : DK w1 p mb es c := h.below bw; have d' := (bw.cell (p := ⟨bd, 0, none⟩) lbd).trans hd; have n' := (bw.cell (p := ⟨bn, 0, none⟩) lbn).trans hn; have p' := (bw.cell (p := ⟨p, 0, none⟩) lp).trans h0; have ad' := fun o => cell_alloc d' o; have an' := fun o => cell_alloc n' o; have a0' := fun o => cell_alloc p' o; obtain ⟨w2, w3, hu2, hu3, m2, m3⟩ := store_two d1 s hs w.heap.size)
  all_goals
    clear hd hn h0 ad an a0 d' n' p' ad' an' a0' hu2 hu3
    go_wp2
    go_end0
    first
      | exact ⟨rfl, fin_a bw d1 m2 hno hnm hlen⟩
      | exact ⟨rfl, fin_b b1 bw d1 hmb m3 hno hnm hlen h⟩
end Go.Proofs.YtcamnalmcghjfaaGreatDoor.Dk
namespace Go.Proofs.YtcamnalmcghjfaaGreatDoor.Dk
open Go.RowKit Go.Maps Go.Proofs.DiskMath
theorem FileAt.row_fb {w : World} {e : Ent} (h : FileAt w e) (k : Nat) (hk : e.v.ownBlock = some k) : k ≠ e.fb := fun e1 => by
  obtain ⟨cur, hc⟩ := row_block h.row hk
  rw [e1, h.cells] at hc
  simp at hc
theorem pair_sym {R : Ent → Ent → Prop} (hs : ∀ {x y}, R x y → R y x) : ∀ {l : List Ent}, l.Pairwise R → ∀ {a b : Ent}, a ∈ l → b ∈ l → a ≠ b → R a b
  | [], _, _, _, ha, _, _ => by cases ha
  | z :: r, h, a, b, ha, hb, hne => by
    have h1 := List.pairwise_cons.1 h
    rcases List.mem_cons.1 ha with ea | ha <;> rcases List.mem_cons.1 hb with eb | hb
    · exact absurd (ea.trans eb.symm) hne
    · rw [ea]; exact h1.1 b hb
    · rw [eb]; exact hs (h1.1 a ha)
    · exact pair_sym hs h1.2 ha hb hne
theorem DK.apart {w : World} {p mb : Nat} {es : List Ent} {c : Ctl} (h : DK w p mb es c) {a b : Ent} (ha : a ∈ es) (hb : b ∈ es) (hne : a.nm ≠ b.nm) : ∀ k, foot a k → ¬ foot b k := by
  have hsep : a.fb ≠ b.fb ∧ ∀ k, a.v.ownBlock = some k → b.v.ownBlock ≠ some k := by
    refine pair_sym (R := fun x y : Ent => x.fb ≠ y.fb ∧ ∀ k, x.v.ownBlock = some k → y.v.ownBlock ≠ some k) (fun h => ⟨Ne.symm h.1, fun k h1 h2 => h.2 k h2 h1⟩) h.sep ha hb (fun e => hne (by rw [e]))
  have fa := h.hf a ha
  have fb := h.hf b hb
  have key : ∀ {x y : Ent}, FileAt w x → FileAt w y → y.v.ownBlock ≠ some x.fb := fun hx hy he => by
    obtain ⟨cur, hc⟩ := row_block hy.row he
    rw [hx.cells] at hc
    simp at hc
  rintro k (rfl | h1) (h2 | h2)
  · exact hsep.1 h2
  · exact key fa fb h2
  · exact key fb fa (h2 ▸ h1)
  · exact hsep.2 k h1 h2
/-- A disk with one file other than it was. -/
theorem DK.mod {w W : World} {p mb : Nat} {es : List Ent} {c : Ctl} (h : DK w p mb es c) {e x : Ent} (he : e ∈ es) (hn : x.nm = e.nm) (hb : x.fb = e.fb) (s : Stay (fun k => k = p ∨ foot e k) w W) (hx : FileAt W x)
    (hr : ∀ k, x.v.ownBlock = some k → e.v.ownBlock = some k ∨ w.heap.size ≤ k) (hfull : used (modE es x) ≤ c.cap)
    (hp : W.heap[p]? = some (.cells #[.map (some mb), .int .i64 c.cap, .int .i64 (used (modE es x)), .bool c.off, .int .i64 c.left, .bool c.dn, .int .i64 c.age, .int .i64 c.wr] 53 (0, 0))) : DK W p mb (modE es x) c := by
  have hother : ∀ a ∈ es, a.nm ≠ x.nm → FileAt W a := fun a ha hne => (h.hf a ha).kept s fun k hk => by
    rintro (rfl | hk')
    · exact h.p_foot ha hk
    · exact h.apart ha he (by rw [← hn]; exact hne) k hk hk'
  exact
  { hp := hp
    hm := by
      rw [modE_len, dmap_mod h.srt he hn hb]
      exact map_kept h.hm s (by
        rintro (hk | hk)
        · exact h.p_mb hk
        · exact h.mb_foot he hk)
    hf := fun a ha => by
      rcases modE_mem ha with rfl | ⟨ha, hne⟩
      · exact hx
      · exact hother a ha hne
    sep := by
      unfold modE
      refine List.pairwise_map.2 (List.Pairwise.imp_of_mem (fun {a b} ha hbm hab => ?_) (h.srt.and h.sep))
      obtain ⟨hlt, hab⟩ := hab
      have new_old : ∀ y ∈ es, y.nm ≠ x.nm → ∀ k, x.v.ownBlock = some k → y.v.ownBlock ≠ some k := fun y hy hne k h1 h2 => by
        rcases hr k h1 with h3 | h3
        · exact h.apart he hy (by rw [← hn]; exact Ne.symm hne) k (.inr h3) (.inr h2)
        · have := h.lt (.inr (.inr ⟨y, hy, .inr h2⟩)); omega
      have nameNe : a.nm ≠ b.nm := fun e => by rw [e] at hlt; exact List.lt_irrefl _ hlt
      split <;> split
      · rename_i h1 h2; exact absurd (h1.trans h2.symm) nameNe
      · rename_i h1 h2
        have hae := h.srt.uniq ha he (h1.trans hn)
        exact ⟨by rw [hb, ← hae]; exact hab.1, new_old b hbm h2⟩
      · rename_i h1 h2
        have hbe := h.srt.uniq hbm he (h2.trans hn)
        exact ⟨by rw [hb, ← hbe]; exact hab.1, fun k h3 h4 => new_old a ha h1 k h4 h3⟩
      · exact hab
    srt := h.srt.mod x
    nms := fun a ha => by
      rcases modE_mem ha with rfl | ⟨ha, _⟩
      · rw [hn]; exact h.nms e he
      · exact h.nms a ha
    many := by rw [modE_len]; exact h.many
    full := hfull
    cap := h.cap
    left := h.left
    age := h.age
    wr := h.wr }
set_option maxHeartbeats 4000000 in
set_option maxRecDepth 100000 in
theorem sync1_any {p mb : Nat} {es : List Ent} {c : Ctl} (e : Ent) (bf : Nat) (w : World) (h : DK w p mb es c) (he : e ∈ es) (hd : w.cell? ⟨bf, 0, none⟩ = some (Pt e.fb)) :
    Calls Tryz.prog 68 #[Pt bf] w fun r w' => r = .returned (.tuple #[]) ∧ DK w' p mb (modE es { e with du := e.da.length }) c ∧ Stay (fun k => k = p ∨ foot e k) w w' := by
  have fe := h.hf e he
  obtain ⟨c0, c1⟩ := fe.cell
  obtain ⟨a, cap, hv, hcap⟩ := slice_form fe.row
  have z1 := fe.frz 1
  rw [hv] at c0
  go_enter Tryz.func68, Tryz.ntmps68
  go_wp2
  go_region
  go_wp2
  go_end0
  have s1 : Stay (· = e.fb) w (w.setCell ⟨e.fb, 1, none⟩ (.int .i64 e.da.length)).drew := ((Stay.refl (· = e.fb) w).setCell (p := ⟨e.fb, 1, none⟩) (fun _ => rfl) _).drew
  have sW := s1.mono (G := fun k => k = p ∨ foot e k) (fun k _ hk => .inr (.inl hk))
  have hu : used (modE es { e with du := e.da.length }) = used es := by have := used_mod h.srt he (x := { e with du := e.da.length }) rfl; dsimp only at this; omega
  refine ⟨rfl, h.mod (x := { e with du := e.da.length }) he rfl rfl sW ⟨?_, ?_, Nat.le_refl _, fe.da⟩ (fun k hk => .inl hk) ?_ ?_, sW⟩
  · exact heap_setCell_same w _ 1 _ _ _ fe.cells
  · exact row_kept fe.row s1 fun k hk => fe.row_fb k hk
  · rw [hu]; exact h.full
  · rw [hu]; exact (s1.block p (h.lt (.inl rfl)) fun e1 => h.p_foot he (.inl e1)).trans h.hp
end Go.Proofs.YtcamnalmcghjfaaGreatDoor.Dk
