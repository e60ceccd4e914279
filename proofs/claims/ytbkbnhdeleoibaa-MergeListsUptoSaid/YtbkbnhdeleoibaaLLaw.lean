/-
  DERIVED. MergeLists: its walk.
-/
import Derived.Test.YtbkbnhdeleoibaaLLaw0
set_option linter.unusedVariables false
set_option linter.unusedSimpArgs false
namespace Go.Proofs.Ytbkbnhdeleoibaa
open Go.RowKit
set_option maxHeartbeats 4000000 in
set_option maxRecDepth 100000 in
theorem law_lists (R : List (List En)) (bottom : Bool) (hcs : ∀ r ∈ R, ∀ e ∈ r, e.c.size ≤ 281474976710656) (la : Option Addr) (ca : Nat) (w : World) (ha : LL w la R) (hl : R.length ≤ 1048576) (hf : R.flatten.length ≤ 1048576) :
    Calls Try.prog 3 #[.slice la R.length ca, .bool bottom] w fun e w' => e = .returned (.bool true) ∧ Below w.heap.size w w' := by
  have hrl : ∀ r ∈ R, r.length ≤ 1048576 := fun r hr => Nat.le_trans (List.sublist_flatten_of_mem hr).length_le hf
  have hM2 : ∀ r ∈ mvL R, r.length ≤ 1048576 := fun q hq => by
    obtain ⟨r, hr, rfl⟩ := mvL_mem hq
    rw [mvR_len]; exact hrl r hr
  have hMc : ∀ r ∈ mvL R, ∀ e ∈ r, e.c.size ≤ 281474976710656 := fun q hq x hx => by
    obtain ⟨r, hr, rfl⟩ := mvL_mem hq
    obtain ⟨y, hy, e⟩ := mvR_code hx
    rw [e]; exact hcs r hr y hy
  have HRL : Hid (∀ q, q ∈ R ∨ q ∈ mvL R → q.length ≤ 1048576) := fun q hq => hq.elim (hrl q) (hM2 q)
  have hlm : (mvL R).length ≤ 1048576 := by rw [mvL_len]; exact hl
  have hfm : (mvL R).flatten.length ≤ 1048576 := by rw [mvL_flat]; exact hf
  have HT := twins_any R hrl la ca w ha hl
  have HM := fun W h => moved_any R hrl la ca W h hl
  have HF1 := fun W h => rmerge_any R la ca bottom W h hl hf
  have HF2 := fun a c W h => rmerge_any (mvL R) a c bottom W h hlm hfm
  have HG1 := fun (Bl : List En) (fb : Int) (hB : MgR R bottom Bl fb) => fun a c W h => pm_one hB hcs hf a c W h
  have HG2 := fun (Bl : List En) (fb : Int) (hB : MgR (mvL R) bottom Bl fb) => fun a c W h => pm_one hB hMc hfm a c W h
  have HK1 := fun B a c g c2 ss W h h2 h3 => kept_any B R hrl a c g c2 ss W h hl h2 h3
  have HK2 := fun B a c g c2 ss W h h2 h3 => kept_any B (mvL R) hM2 a c g c2 ss W h hlm h2 h3
  have HW1 : ∀ (Q : List (List En)), Q.length = R.length → (∀ (j : Nat) (q r : List En), Q[j]? = some q → R[j]? = some r → q.length = r.length) → ∀ a c g c2 m ss W, TB w.heap.size W (.slice (some ⟨g, 0, none⟩) m c2) ss Q 64 → (∀ W', Stay (InS ss) W W' → LL W' a R) → _ := fun Q h1 h2 a c g c2 m ss W h3 h4 => written_any w.heap.size Q R R.length rfl hrl hl h1 h2 a c g c2 m ss W h3 h4
  have HW2 : ∀ (Q : List (List En)), Q.length = R.length → (∀ (j : Nat) (q r : List En), Q[j]? = some q → R[j]? = some r → q.length = r.length) → ∀ a c g c2 m ss W, TB w.heap.size W (.slice (some ⟨g, 0, none⟩) m c2) ss Q 64 → (∀ W', Stay (InS ss) W W' → LL W' a (mvL R)) → _ := fun Q h1 h2 a c g c2 m ss W h3 h4 => written_any w.heap.size Q (mvL R) R.length (mvL_len R).symm hM2 hl (h1.trans (mvL_len R).symm) (fun i q r hq hr => by
    have hj : i < R.length := by have := (List.getElem?_eq_some_iff.1 hr).1; rw [mvL_len] at this; exact this
    have e := List.getElem?_eq_getElem hj
    exact (h2 i q _ hq e).trans (mvL_shape hr e).symm) a c g c2 m ss W h3 h4
  rw [mvL_len] at HF2 HG2 HK2
  obtain ⟨n, hn⟩ : ∃ n, n = R.length := ⟨_, rfl⟩
  rw [← hn] at HT HM HF1 HF2 ⊢
  clear hrl hM2 hcs hMc
  have hl' : n ≤ 1048576 := by omega
  have HA0 := Hid.mk (And.intro ha (And.intro hn (And.intro HG1 (And.intro HG2 (And.intro HK1 (And.intro HK2 (And.intro HW1 HW2)))))))
  have HFL := Hid.mk (And.intro hf hfm)
  clear HG1 HG2 HK1 HK2 HW1 HW2 hl ha hn hlm hfm hf
  go_enter Try.func3, Try.ntmps3
  go_wp2_with (go_at_call 4; refine HT.mono ?_; clear HT; rintro e w1 ⟨g, c, ss, rfl, hc, T1, b1⟩)
  have L1 := HA0.out.1.below b1
  go_wp2_with (go_at_call 5; refine (HM _ L1).mono ?_; clear HM; rintro e w2 ⟨ao, co, rfl, ⟨sm, M2⟩, b2⟩)
  have L2 := L1.below b2
  go_wp2_with (go_at_call 6; refine (HF1 _ L2).mono ?_; clear HF1; rintro e w3 ⟨b3, Bl, ab, nb, cb, fb, hB, rfl, t3, n3⟩)
  refine (HF2 ao co _ ((M2.lat b3).ll (fun r hr => HRL.out r (.inr hr)))).mono ?_
  clear HF2
  rintro e w4 ⟨b4, Cl, ac, nc, cc, fc, hC, rfl, t4, n4⟩
  have F0 : Hid (FS w w1 w2.heap.size Bl Cl R g c ss ao co sm (.slice ab nb cb) (.slice ac nc cc) w4 R (.slice none 0 0) []) := by
    have hn := HA0.out.2.1
    rw [hn] at T1 M2
    have s2 := b2.size
    have s3 := b3.size
    have s4 := b4.size
    refine ⟨((T1.lat b2).lat b3).lat b4, fun i s b hs hb => (T1.blk hs hb).2.1, (M2.lat b3).lat b4, HRow.below t3 b4, fun b hb => Nat.le_trans s2 (n3 b hb), t4, fun b hb => Nat.le_trans s2 (Nat.le_trans s3 (n4 b hb)), b1.trans ((b2.mono b1.size).trans ((b3.mono (Nat.le_trans b1.size s2)).trans (b4.mono (Nat.le_trans b1.size (Nat.le_trans s2 s3))))), by omega, by omega, s2, fun b hb => row_lt M2.row hb, b1.size, row_lt T1.row rfl, ⟨rfl, .inl ⟨rfl, rfl⟩⟩, fun b hb => (by cases hb), fun j s hs => by simp at hs, fun j s b hs => by simp at hs, fun i j s u b hs => by simp at hs⟩
  have HL : Hid (nb = Bl.length ∧ nc = Cl.length) := ⟨(HRow.cap t3).1, (HRow.cap t4).1⟩
  have HLN : Hid (Bl.length ≤ 1048576 ∧ Cl.length ≤ 1048576) := ⟨Nat.le_trans hB.len HFL.out.1, Nat.le_trans hC.len HFL.out.2⟩
  have HA : Hid (LL w la R ∧ n = R.length ∧ (∀ a c W, LL W a R → Calls Try.prog 8 #[.slice a n c, .bool bottom] W fun r w' => ∃ aa cA, r = .returned (.tuple #[.slice aa nb cA, .int .i64 fb]) ∧ HRow w' (.slice aa nb cA) Bl ∧ (∀ b, (Value.slice aa nb cA).ownBlock = some b → W.heap.size ≤ b) ∧ Below W.heap.size W w') ∧
      (∀ a c W, LL W a (mvL R) → Calls Try.prog 8 #[.slice a n c, .bool bottom] W fun r w' => ∃ aa cA, r = .returned (.tuple #[.slice aa nc cA, .int .i64 fc]) ∧ HRow w' (.slice aa nc cA) Cl ∧ (∀ b, (Value.slice aa nc cA).ownBlock = some b → W.heap.size ≤ b) ∧ Below W.heap.size W w') ∧
      (∀ B a c g c2 ss W, LL W a R → n + 64 ≤ c2 → TB B W (.slice (some ⟨g, 0, none⟩) (n + 64) c2) ss R 64 → Calls Try.prog 10 #[.slice (some ⟨g, 0, none⟩) n c2, .slice a n c] W fun e w' => e = .returned (.bool true) ∧ Below W.heap.size W w') ∧
      (∀ B a c g c2 ss W, LL W a (mvL R) → n + 64 ≤ c2 → TB B W (.slice (some ⟨g, 0, none⟩) (n + 64) c2) ss (mvL R) 64 → Calls Try.prog 10 #[.slice (some ⟨g, 0, none⟩) n c2, .slice a n c] W fun e w' => e = .returned (.bool true) ∧ Below W.heap.size W w') ∧
      (∀ (Q : List (List En)), Q.length = R.length → (∀ (j : Nat) (q r : List En), Q[j]? = some q → R[j]? = some r → q.length = r.length) → ∀ a c g c2 m ss W, TB w.heap.size W (.slice (some ⟨g, 0, none⟩) m c2) ss Q 64 → (∀ W', Stay (InS ss) W W' → LL W' a R) → Calls Try.prog 7 #[.slice (some ⟨g, 0, none⟩) n c2, .slice a n c] W fun e w' => e = .returned (.tuple #[]) ∧ TB w.heap.size w' (.slice (some ⟨g, 0, none⟩) m c2) ss R 64 ∧ Stay (InS ss) W w') ∧
      (∀ (Q : List (List En)), Q.length = R.length → (∀ (j : Nat) (q r : List En), Q[j]? = some q → R[j]? = some r → q.length = r.length) → ∀ a c g c2 m ss W, TB w.heap.size W (.slice (some ⟨g, 0, none⟩) m c2) ss Q 64 → (∀ W', Stay (InS ss) W W' → LL W' a (mvL R)) → Calls Try.prog 7 #[.slice (some ⟨g, 0, none⟩) n c2, .slice a n c] W fun e w' => e = .returned (.tuple #[]) ∧ TB w.heap.size w' (.slice (some ⟨g, 0, none⟩) m c2) ss (mvL R) 64 ∧ Stay (InS ss) W w')) := by
    have hn := HA0.out.2.1
    rw [hn, HL.out.1, HL.out.2]
    exact ⟨HA0.out.1, rfl, HA0.out.2.2.1 Bl fb hB, HA0.out.2.2.2.1 Cl fc hC, HA0.out.2.2.2.2.1, HA0.out.2.2.2.2.2.1, HA0.out.2.2.2.2.2.2.1, HA0.out.2.2.2.2.2.2.2⟩
  obtain ⟨E, hE⟩ : ∃ E, w2.heap.size = E := ⟨_, rfl⟩
  rw [hE] at F0
  clear HA0 HFL T1 M2 b1 b2 b3 b4 t3 t4 n3 n4 hB hC L1 L2 hE
  go_wp2
  go_loopw [11, 12] (fun ug u wr => RBL w w1 E Bl Cl R g c ss ao co sm (.slice ab nb cb) (.slice ac nc cc) ug u wr) (fun _ u _ => 5 - (intOf u).toNat)
  case atStart => exact ⟨0, none, 0, [], R, rfl, rfl, by omega, F0.out, rfl, fun j q r hq hr => by rw [hq] at hr; cases hr; rfl, fun h => by omega⟩
  case round =>
    clear F0
    obtain ⟨i, ga, gc, gs, Q, rfl, rfl, hi, HR⟩ := hrel
    obtain ⟨w5, rfl⟩ : ∃ w5, w5 = wr := ⟨_, rfl⟩
    by_cases hlt : i < 5
    · have i1 : (i : Int) < 5 := by omega
      have hwi : IntKind.i64.wrap ((i : Int) + 1) = ((i + 1 : Nat) : Int) := by rw [IntKind.wrap_i64]; omega
      by_cases h2 : i = 2
      · have e2 : ((i : Int) == 2) = true := by simp; omega
        have HW : Hid (wantL Bl Cl i = Cl ∧ (i + 1 = 5 → mvL R = R)) := ⟨by unfold wantL; rw [if_pos (.inl h2)], fun h => by omega⟩
        clear h2
        have hwr := HA.out.2.2.2.2.2.2.2 Q HR.out.2.1 HR.out.2.2.1 ao co g c (R.length + 64) ss w5 HR.out.1.tb (fun W st => (HR.out.1.ml.stay st (fun z hz _ e => by obtain ⟨j, s, h1, h2⟩ := e; have := HR.out.1.old j s z h1 h2; omega)).ll (fun r hr => HRL.out r (.inr hr)))
        have F5 := Hid.mk HR.out.1
        clear HR
        go_wp2_with (go_at_call 7; refine hwr.mono ?_; clear hwr; rintro e w6 ⟨rfl, T6, st6⟩)
        have F6 := Hid.mk (F5.out.wrote T6 st6)
        have hF := HA.out.2.2.2.1 (some ⟨g, 0, none⟩) c w6 (T6.ll (fun r hr => HRL.out r (.inr hr)))
        clear T6 st6 F5
        go_wp2_with (go_at_call 8; refine hF.mono ?_; clear hF; rintro e w7 ⟨aa, cA, rfl, t7⟩)
        have hlA : LAt w7 aa Cl := by
          rw [HL.out.2] at t7
          exact (HRow.cap t7.1).2.2
        have F7 := F6.out.lat t7.2.2
        have hlw : LAt w7 ac Cl := by
          have h9 := F7.cl
          exact (HRow.cap h9).2.2
        have hs := same_any Cl aa ac cA cc w7 hlA hlw (by have := HLN.out.2; omega)
        rw [← HL.out.2] at hs
        have HV := Hid.mk (And.intro F7 t7)
        clear F7 t7 hlA hlw
        go_wp2_with (go_at_call 9; refine hs.mono ?_; clear hs; rintro e w8 ⟨rfl, d8⟩)
        have b8 : Below w7.heap.size w7 w8 := d8.below _
        have F8 := HV.out.1.lat b8
        have hk := HA.out.2.2.2.2.2.1 w.heap.size ao co g c ss w8 (F8.ml.ll (fun r hr => HRL.out r (.inr hr))) hc (by have h9 := F8.tb; rw [← HA.out.2.1] at h9; exact h9)
        clear F8 d8
        have HPush : Hid (∀ w9, Below w8.heap.size w8 w9 → ∃ a' c' W', (Builtin.append_ #[22, 22] 22 #[.slice ga i gc, .slice (some ⟨w9.heap.size, 0, none⟩) 1 1]).run Try.prog (w9.alloc (.cells #[.slice aa nc cA] 24)) = .ok (.slice a' (i + 1) c') W' ∧ RBL w w1 E Bl Cl R g c ss ao co sm (.slice ab nb cb) (.slice ac nc cc) (.slice a' (i + 1) c') (.int .i64 ((i + 1 : Nat) : Int)) W') := fun w9 b9 => by
          have b79 : Below w7.heap.size w7 w9 := b8.trans (b9.mono b8.size)
          obtain ⟨a', c', W', hap, F'⟩ := FS.push F6.out (HV.out.1.lat b79) (v := .slice aa nc cA) (by rw [HW.out.1]; exact HRow.below HV.out.2.1 b79) HV.out.2.2.1 rfl (by omega)
          exact ⟨a', c', W', hap, i + 1, a', c', _, (mvL R), rfl, rfl, hlt, F', (mvL_len R), (fun j q r hq hr => mvL_shape hq hr), HW.out.2⟩
        clear HV F6 b8
        go_wp2_with first
          | (go_at_call 10; refine hk.mono ?_; clear hk; rintro e w9 ⟨rfl, b9⟩; obtain ⟨a', c', W', hap, HN⟩ := HPush.out _ b9; clear HPush b9; replace HN := Hid.mk HN)
          | (at_builtin; refine wpList_append_eq rfl _ _ _ _ rfl _ _ _ _ rfl rfl hap ?_; clear hap)
        exact ⟨HN.out, by simp only [intOf]; omega⟩
      · have e2 : ((i : Int) == 2) = false := by simp; omega
        by_cases h3 : i = 3
        · have e3 : ((i : Int) == 3) = true := by simp; omega
          have HW : Hid (wantL Bl Cl i = Cl ∧ (i + 1 = 5 → mvL R = R)) := ⟨by unfold wantL; rw [if_pos (.inr h3)], fun h => by omega⟩
          clear h2 h3
          have hwr := HA.out.2.2.2.2.2.2.2 Q HR.out.2.1 HR.out.2.2.1 ao co g c (R.length + 64) ss w5 HR.out.1.tb (fun W st => (HR.out.1.ml.stay st (fun z hz _ e => by obtain ⟨j, s, h1, h2⟩ := e; have := HR.out.1.old j s z h1 h2; omega)).ll (fun r hr => HRL.out r (.inr hr)))
          have F5 := Hid.mk HR.out.1
          clear HR
          go_wp2_with (go_at_call 7; refine hwr.mono ?_; clear hwr; rintro e w6 ⟨rfl, T6, st6⟩)
          have F6 := Hid.mk (F5.out.wrote T6 st6)
          have hF := HA.out.2.2.2.1 (some ⟨g, 0, none⟩) c w6 (T6.ll (fun r hr => HRL.out r (.inr hr)))
          clear T6 st6 F5
          go_wp2_with (go_at_call 8; refine hF.mono ?_; clear hF; rintro e w7 ⟨aa, cA, rfl, t7⟩)
          have hlA : LAt w7 aa Cl := by
            rw [HL.out.2] at t7
            exact (HRow.cap t7.1).2.2
          have F7 := F6.out.lat t7.2.2
          have hlw : LAt w7 ac Cl := by
            have h9 := F7.cl
            exact (HRow.cap h9).2.2
          have hs := same_any Cl aa ac cA cc w7 hlA hlw (by have := HLN.out.2; omega)
          rw [← HL.out.2] at hs
          have HV := Hid.mk (And.intro F7 t7)
          clear F7 t7 hlA hlw
          go_wp2_with (go_at_call 9; refine hs.mono ?_; clear hs; rintro e w8 ⟨rfl, d8⟩)
          have b8 : Below w7.heap.size w7 w8 := d8.below _
          have F8 := HV.out.1.lat b8
          have hk := HA.out.2.2.2.2.2.1 w.heap.size ao co g c ss w8 (F8.ml.ll (fun r hr => HRL.out r (.inr hr))) hc (by have h9 := F8.tb; rw [← HA.out.2.1] at h9; exact h9)
          clear F8 d8
          have HPush : Hid (∀ w9, Below w8.heap.size w8 w9 → ∃ a' c' W', (Builtin.append_ #[22, 22] 22 #[.slice ga i gc, .slice (some ⟨w9.heap.size, 0, none⟩) 1 1]).run Try.prog (w9.alloc (.cells #[.slice aa nc cA] 24)) = .ok (.slice a' (i + 1) c') W' ∧ RBL w w1 E Bl Cl R g c ss ao co sm (.slice ab nb cb) (.slice ac nc cc) (.slice a' (i + 1) c') (.int .i64 ((i + 1 : Nat) : Int)) W') := fun w9 b9 => by
            have b79 : Below w7.heap.size w7 w9 := b8.trans (b9.mono b8.size)
            obtain ⟨a', c', W', hap, F'⟩ := FS.push F6.out (HV.out.1.lat b79) (v := .slice aa nc cA) (by rw [HW.out.1]; exact HRow.below HV.out.2.1 b79) HV.out.2.2.1 rfl (by omega)
            exact ⟨a', c', W', hap, i + 1, a', c', _, (mvL R), rfl, rfl, hlt, F', (mvL_len R), (fun j q r hq hr => mvL_shape hq hr), HW.out.2⟩
          clear HV F6 b8
          go_wp2_with first
            | (go_at_call 10; refine hk.mono ?_; clear hk; rintro e w9 ⟨rfl, b9⟩; obtain ⟨a', c', W', hap, HN⟩ := HPush.out _ b9; clear HPush b9; replace HN := Hid.mk HN)
            | (at_builtin; refine wpList_append_eq rfl _ _ _ _ rfl _ _ _ _ rfl rfl hap ?_; clear hap)
          exact ⟨HN.out, by simp only [intOf]; omega⟩
        · have e3 : ((i : Int) == 3) = false := by simp; omega
          have HW : Hid (wantL Bl Cl i = Bl ∧ (i + 1 = 5 → R = R)) := ⟨by unfold wantL; rw [if_neg (by omega)], fun h => rfl⟩
          clear h2 h3
          have hwr := HA.out.2.2.2.2.2.2.1 Q HR.out.2.1 HR.out.2.2.1 la ca g c (R.length + 64) ss w5 HR.out.1.tb (fun W st => HA.out.1.below (HR.out.1.below.trans (st.toBelow (fun z hz e => by obtain ⟨j, s, h1, h2⟩ := e; have := HR.out.1.tb.bnew j s z h1 h2; omega) HR.out.1.below.size)))
          have F5 := Hid.mk HR.out.1
          clear HR
          go_wp2_with (go_at_call 7; refine hwr.mono ?_; clear hwr; rintro e w6 ⟨rfl, T6, st6⟩)
          have F6 := Hid.mk (F5.out.wrote T6 st6)
          have hF := HA.out.2.2.1 (some ⟨g, 0, none⟩) c w6 (T6.ll (fun r hr => HRL.out r (.inl hr)))
          clear T6 st6 F5
          go_wp2_with (go_at_call 8; refine hF.mono ?_; clear hF; rintro e w7 ⟨aa, cA, rfl, t7⟩)
          have hlA : LAt w7 aa Bl := by
            rw [HL.out.1] at t7
            exact (HRow.cap t7.1).2.2
          have F7 := F6.out.lat t7.2.2
          have hlw : LAt w7 ab Bl := by
            have h9 := F7.bl
            exact (HRow.cap h9).2.2
          have hs := same_any Bl aa ab cA cb w7 hlA hlw (by have := HLN.out.1; omega)
          rw [← HL.out.1] at hs
          have HV := Hid.mk (And.intro F7 t7)
          clear F7 t7 hlA hlw
          go_wp2_with (go_at_call 9; refine hs.mono ?_; clear hs; rintro e w8 ⟨rfl, d8⟩)
          have b8 : Below w7.heap.size w7 w8 := d8.below _
          have F8 := HV.out.1.lat b8
          have hk := HA.out.2.2.2.2.1 w.heap.size la ca g c ss w8 (HA.out.1.below F8.below) hc (by have h9 := F8.tb; rw [← HA.out.2.1] at h9; exact h9)
          clear F8 d8
          have HPush : Hid (∀ w9, Below w8.heap.size w8 w9 → ∃ a' c' W', (Builtin.append_ #[22, 22] 22 #[.slice ga i gc, .slice (some ⟨w9.heap.size, 0, none⟩) 1 1]).run Try.prog (w9.alloc (.cells #[.slice aa nb cA] 24)) = .ok (.slice a' (i + 1) c') W' ∧ RBL w w1 E Bl Cl R g c ss ao co sm (.slice ab nb cb) (.slice ac nc cc) (.slice a' (i + 1) c') (.int .i64 ((i + 1 : Nat) : Int)) W') := fun w9 b9 => by
            have b79 : Below w7.heap.size w7 w9 := b8.trans (b9.mono b8.size)
            obtain ⟨a', c', W', hap, F'⟩ := FS.push F6.out (HV.out.1.lat b79) (v := .slice aa nb cA) (by rw [HW.out.1]; exact HRow.below HV.out.2.1 b79) HV.out.2.2.1 rfl (by omega)
            exact ⟨a', c', W', hap, i + 1, a', c', _, R, rfl, rfl, hlt, F', rfl, (fun j q r hq hr => by rw [hq] at hr; cases hr; rfl), (fun _ => rfl)⟩
          clear HV F6 b8
          go_wp2_with first
            | (go_at_call 10; refine hk.mono ?_; clear hk; rintro e w9 ⟨rfl, b9⟩; obtain ⟨a', c', W', hap, HN⟩ := HPush.out _ b9; clear HPush b9; replace HN := Hid.mk HN)
            | (at_builtin; refine wpList_append_eq rfl _ _ _ _ rfl _ _ _ _ rfl rfl hap ?_; clear hap)
          exact ⟨HN.out, by simp only [intOf]; omega⟩
    · have i1 : ¬ (i : Int) < 5 := by omega
      obtain rfl : i = 5 := by omega
      obtain rfl : Q = R := HR.out.2.2.2 rfl
      have FW := Hid.mk HR.out.1
      have hgl : gs.length = 5 := by
        obtain ⟨a', c', e', -⟩ := slice_form FW.out.grow
        simp only [Value.slice.injEq] at e'
        exact e'.2.1.symm
      obtain ⟨s0, s1, s2, s3, s4, rfl⟩ : ∃ s0 s1 s2 s3 s4, gs = [s0, s1, s2, s3, s4] := by
        rcases gs with _ | ⟨a, _ | ⟨b, _ | ⟨c, _ | ⟨d, _ | ⟨e, _ | ⟨f, l⟩⟩⟩⟩⟩⟩ <;> simp at hgl
        exact ⟨a, b, c, d, e, rfl⟩
      obtain ⟨gg, hga⟩ : ∃ gg, ga = some ⟨gg, 0, none⟩ := by
        rcases FW.out.grow.2 with ⟨e, e2⟩ | ⟨g, cap, cur, e, -⟩
        · simp at e2
        · simp only [Value.slice.injEq] at e
          exact ⟨g, e.1⟩
      subst hga
      have hcell : ∀ (j : Nat) (s : Value), [s0, s1, s2, s3, s4][j]? = some s → w5.cell? ⟨gg, j, none⟩ = some s := fun j s hs => by
        rw [World.ownsRow.cellAt FW.out.grow j (by have := (List.getElem?_eq_some_iff.1 hs).1; omega), hs]
      have hform : ∀ (j : Nat) (s : Value), [s0, s1, s2, s3, s4][j]? = some s → ∃ a c, s = .slice a (wantL Bl Cl j).length c ∧ LAt w5 a (wantL Bl Cl j) := fun j s hs => HRow.lat (FW.out.geach j s hs)
      obtain ⟨a0, c0, rfl, l0⟩ := hform 0 s0 rfl
      obtain ⟨a1, c1, rfl, l1⟩ := hform 1 s1 rfl
      obtain ⟨a2, c2, rfl, l2⟩ := hform 2 s2 rfl
      obtain ⟨a3, c3, rfl, l3⟩ := hform 3 s3 rfl
      obtain ⟨a4, c4, rfl, l4⟩ := hform 4 s4 rfl
      have q0 := hcell 0 _ rfl
      have q1 := hcell 1 _ rfl
      have q2 := hcell 2 _ rfl
      have q3 := hcell 3 _ rfl
      have q4 := hcell 4 _ rfl
      have e0 : wantL Bl Cl 0 = Bl := rfl
      have e1 : wantL Bl Cl 1 = Bl := rfl
      have e2 : wantL Bl Cl 2 = Cl := rfl
      have e3 : wantL Bl Cl 3 = Cl := rfl
      have e4 : wantL Bl Cl 4 = Bl := rfl
      have lb : LAt w5 ab Bl := by
        obtain ⟨a9, c9, e9, h9⟩ := HRow.lat FW.out.bl
        simp only [Value.slice.injEq] at e9
        rw [e9.1]; exact h9
      have lc : LAt w5 ac Cl := by
        obtain ⟨a9, c9, e9, h9⟩ := HRow.lat FW.out.cl
        simp only [Value.slice.injEq] at e9
        rw [e9.1]; exact h9
      rw [e0] at l0 q0
      rw [e1] at l1 q1
      rw [e2] at l2 q2
      rw [e3] at l3 q3
      rw [e4] at l4 q4
      have hb1 := HLN.out.1
      have hb2 := HLN.out.2
      have HS1 : ∀ a c W, Below w5.heap.size w5 W → LAt w5 a Bl → Calls Try.prog 9 #[.slice a Bl.length c, .slice ab Bl.length cb] W fun e w' => e = .returned (.bool true) ∧ Below W.heap.size W w' := fun a c W hW hl => (same_any Bl a ab c cb W (hl.below hW) (lb.below hW) (by omega)).mono (by rintro e w' ⟨rfl, d⟩; exact ⟨rfl, d.below _⟩)
      have HS2 : ∀ a c W, Below w5.heap.size w5 W → LAt w5 a Cl → Calls Try.prog 9 #[.slice a Cl.length c, .slice ac Cl.length cc] W fun e w' => e = .returned (.bool true) ∧ Below W.heap.size W w' := fun a c W hW hl => (same_any Cl a ac c cc W (hl.below hW) (lc.below hW) (by omega)).mono (by rintro e w' ⟨rfl, d⟩; exact ⟨rfl, d.below _⟩)
      have HAP : Hid (∀ W, Below w5.heap.size w5 W → Calls Try.prog 11 #[.slice (some ⟨gg, 0, none⟩) 5 gc] W fun e w' => e = .returned (.bool true) ∧ Below w.heap.size w w' ∧ TB w.heap.size w' (.slice (some ⟨g, 0, none⟩) (Q.length + 64) c) ss Q 64) := fun W hW => by
        have FX := FW.out.lat hW
        have hlen5 : ∀ (j : Nat) (m : Nat), ((List.range 5).map (fun j => (wantL Bl Cl j).length))[j]? = some m → m = (wantL Bl Cl j).length := fun j m hm => by
          obtain ⟨h1, h2⟩ := List.getElem?_eq_some_iff.1 hm
          simpa using h2.symm
        refine (apart_any (.slice (some ⟨gg, 0, none⟩) 5 gc) _ ((List.range 5).map (fun j => (wantL Bl Cl j).length)) W ⟨by simp, FX.grow, fun j s m hs hm => ⟨_, (hlen5 j m hm).symm, FX.geach j s hs⟩, FX.gap⟩ (by simp) (fun m hm => by
          obtain ⟨j, -, rfl⟩ := List.mem_map.1 hm
          have h7 := HLN.out; unfold wantL; split <;> omega)).mono ?_
        rintro e w' ⟨rfl, st⟩
        have hg : ∀ b, (∃ (j : Nat) (s : Value), [Value.slice a0 (wantL Bl Cl 0).length c0, .slice a1 (wantL Bl Cl 1).length c1, .slice a2 (wantL Bl Cl 2).length c2, .slice a3 (wantL Bl Cl 3).length c3, .slice a4 (wantL Bl Cl 4).length c4][j]? = some s ∧ s.ownBlock = some b) → w1.heap.size ≤ b := fun b ⟨j, s, h1, h2⟩ => FX.gbn j s b h1 h2
        refine ⟨rfl, FX.below.trans (st.toBelow (fun b hb e => by have := hg b e; have := FX.le; omega) FX.below.size), FX.tb.stay st (fun b hb e => ?_) (fun j s b hs hb e => ?_)⟩
        · have h1 := hg b e
          have h2 := FX.gold
          have h3 : g = b := by simpa [Value.ownBlock] using hb
          omega
        · have h1 := hg b e
          have h2 := FX.old j s b hs hb
          omega
      rw [← HL.out.1] at HS1 q0 q1 q4
      rw [← HL.out.2] at HS2 q2 q3
      have L0 := Hid.mk (And.intro l0 (And.intro l1 (And.intro l2 (And.intro l3 l4))))
      clear l0 l1 l2 l3 l4 e0 e1 e2 e3 e4 hcell hform lb lc hgl HR hlt i1
      have bb := Below.refl w5.heap.size w5
      have h0 := fun W hW => HS1 a0 c0 W hW L0.out.1
      have h1 := fun W hW => HS1 a1 c1 W hW L0.out.2.1
      have h4 := fun W hW => HS1 a4 c4 W hW L0.out.2.2.2.2
      have h2 := fun W hW => HS2 a2 c2 W hW L0.out.2.2.1
      have h3 := fun W hW => HS2 a3 c3 W hW L0.out.2.2.2.1
      clear HS1 HS2 hb1 hb2
      go_wp2_with first
        | (go_at_call 9; refine (h0 _ bb).mono ?_; clear h0; rintro e wz ⟨rfl, bn⟩; replace bb := bb.trans (bn.mono bb.size); replace q1 := cell_lat bn q1; replace q2 := cell_lat bn q2; replace q3 := cell_lat bn q3; replace q4 := cell_lat bn q4; clear bn)
        | (go_at_call 9; refine (h1 _ bb).mono ?_; clear h1; rintro e wz ⟨rfl, bn⟩; replace bb := bb.trans (bn.mono bb.size); replace q2 := cell_lat bn q2; replace q3 := cell_lat bn q3; replace q4 := cell_lat bn q4; clear bn)
        | (go_at_call 9; refine (h4 _ bb).mono ?_; clear h4; rintro e wz ⟨rfl, bn⟩; replace bb := bb.trans (bn.mono bb.size); replace q2 := cell_lat bn q2; replace q3 := cell_lat bn q3; clear bn)
        | (go_at_call 9; refine (h2 _ bb).mono ?_; clear h2; rintro e wz ⟨rfl, bn⟩; replace bb := bb.trans (bn.mono bb.size); replace q3 := cell_lat bn q3; clear bn)
        | (go_at_call 9; refine (h3 _ bb).mono ?_; clear h3; rintro e wz ⟨rfl, bn⟩; replace bb := bb.trans (bn.mono bb.size); clear bn)
        | (go_at_call 11; refine (HAP.out _ bb).mono ?_; clear HAP; rintro e wz ⟨rfl, bz, tz⟩; have hk := HA.out.2.2.2.2.1 w.heap.size la ca g c ss wz (HA.out.1.below bz) hc (by have h9 := tz; rw [← HA.out.2.1] at h9; exact h9); clear tz)
        | (go_at_call 10; refine hk.mono ?_; clear hk; rintro e wy ⟨rfl, by'⟩; have HE := Hid.mk (bz.trans (by'.mono bz.size)); clear by')
      go_ret
      exact ⟨rfl, HE.out⟩
end Go.Proofs.Ytbkbnhdeleoibaa
