/-
  DERIVED. The law's parted.
-/
import Derived.Test.YtfjbabiobobboaaVGot
import Derived.Test.YtfjbabiobobboaaVApartI
set_option linter.unusedVariables false
set_option linter.unusedSimpArgs false
namespace Go.Proofs.Ytfjbabiobobboaa
open Go.RowKit
def otherB : ByteArray := ⟨#[48, 49, 50, 51, 52, 53, 54, 55, 56, 57, 97, 98, 99, 100, 101, 102]⟩
def partedW (A B : List (Int)) (j : Nat) : List (Int) := if j = 2 ∨ j = 3 then B else A
def partedL (w1 : World) (A B : List (Int)) (vb vc : Value) (ug u : Value) (wr : World) : Prop := ∃ (i : Nat) (ga : Option Addr) (gc : Nat) (gs : List Value), ug = .slice ga i gc ∧ u = .int .i64 i ∧ i ≤ 5 ∧ Hid (EI.Got w1.heap.size wr (.slice ga i gc) gs (partedW A B) ∧ EI.Row wr vb A ∧ EI.Row wr vc B ∧ Below w1.heap.size w1 wr)
set_option maxHeartbeats 4000000 in
set_option maxRecDepth 100000 in
theorem parted_any (x m : Int) (s : ByteArray) (w : World) : Calls Try.prog 5 #[.int .i64 x, .int .i64 m, .string s] w fun e w' => e = .returned (.bool true) ∧ Below w.heap.size w w' := by
  have P1 := fun W => split_all x m s W
  have P2 := fun W => split_all 128 5 otherB W
  have R1 := fun W => rsplit_all x m s W
  have R2 := fun W => rsplit_all 128 5 otherB W
  have la := spA_len s.data.toList x m
  have lb := spA_len otherB.data.toList 128 5
  obtain ⟨A, hA⟩ : ∃ A, A = spA s.data.toList x m := ⟨_, rfl⟩
  obtain ⟨B, hB⟩ : ∃ B, B = spA otherB.data.toList 128 5 := ⟨_, rfl⟩
  obtain ⟨ea, hea⟩ : ∃ ea, ea = spE x m s.size := ⟨_, rfl⟩
  obtain ⟨eb, heb⟩ : ∃ eb, eb = spE 128 5 otherB.size := ⟨_, rfl⟩
  rw [← hA] at P1 R1 la
  rw [← hB] at P2 R2 lb
  rw [← hea] at P1 R1
  rw [← heb] at P2 R2
  simp only [otherB] at P2 R2
  have HA := Hid.mk (And.intro la lb)
  have HP := Hid.mk (And.intro P1 P2)
  clear hA hB hea heb la lb P1 P2
  go_enter Try.func5, Try.ntmps5
  go_wp2_with first
    | (go_at_call 11; refine (R1 _).mono ?_; clear R1; rintro e w1 ⟨vb, rfl, rb, nb, bb⟩)
    | (go_at_call 11; refine (R2 _).mono ?_; clear R2; rintro e w2 ⟨vc, rfl, rc, nc, bc⟩)
  obtain ⟨ab, cb, hvb, -⟩ := slice_form rb
  obtain ⟨ac, c2, hvc, -⟩ := slice_form rc
  obtain ⟨nA, hnA⟩ : ∃ nA, nA = A.length := ⟨_, rfl⟩
  obtain ⟨nB, hnB⟩ : ∃ nB, nB = B.length := ⟨_, rfl⟩
  rw [← hnA] at hvb
  rw [← hnB] at hvc
  subst hvb
  subst hvc
  have F0 : Hid (partedL w2 A B (.slice ab nA cb) (.slice ac nB c2) (.slice none 0 0) (.int .i64 ((0 : Nat) : Int)) w2) := ⟨0, none, 0, [], rfl, rfl, by omega, El.Got.nil _ _ _ _, El.Row.below rb bc, rc, Below.refl _ _⟩
  have HW : Hid (Below w.heap.size w w2) := bb.trans (bc.mono bb.size)
  have HL := Hid.mk (And.intro hnA hnB)
  clear rb nb rc nc bb bc hnA hnB
  go_loopw [12, 13] (fun ug u wr => partedL w2 A B (.slice ab nA cb) (.slice ac nB c2) ug u wr) (fun _ u _ => 5 - (intOf u).toNat)
  case atStart => exact F0.out
  case round =>
    clear F0
    obtain ⟨i, ga, gc, gs, rfl, rfl, hi, HR⟩ := hrel
    obtain ⟨w5, rfl⟩ : ∃ w5, w5 = wr := ⟨_, rfl⟩
    by_cases hlt : i < 5
    · have i1 : (i : Int) < 5 := by omega
      have hwi : IntKind.i64.wrap ((i : Int) + 1) = ((i + 1 : Nat) : Int) := by rw [IntKind.wrap_i64]; omega
      have P1 := HP.out.1
      have P2 := HP.out.2
      by_cases h2 : i = 2
      · have e2 : ((i : Int) == 2) = true := by simp; omega
        have HWi : Hid (partedW A B i = B) := by show partedW A B i = B; unfold partedW; rw [if_pos (.inl h2)]
        clear h2
        have HF : Hid (∀ (va : Value) (W : World), EI.Row W va B → ∃ aa ca, va = .slice aa nB ca ∧ EI.At W aa B) := fun va W h => by
          obtain ⟨aa, ca, e1, e2⟩ := El.Row.lat h
          exact ⟨aa, ca, by rw [HL.out.2]; exact e1, e2⟩
        have HN0 : Hid (∀ w5a : World, Below w5.heap.size w5 w5a → ∀ va : Value, (∀ k, va.ownBlock = some k → w5a.heap.size ≤ k) → ∀ k, va.ownBlock = some k → w5.heap.size ≤ k) := fun w5a b va h k hk => Nat.le_trans b.size (h k hk)
        have HS : Hid (∀ (W : World) (aa : Option Addr) (ca : Nat), EI.At W aa B → Below w5.heap.size w5 W → Calls Try.prog 13 #[.slice aa nB ca, .slice ac nB c2] W fun e w' => e = .returned (.bool true) ∧ Below W.heap.size W w') := fun W aa ca h b => by
          obtain ⟨a9, c9, e9, h9⟩ := El.Row.lat (El.Row.below HR.out.2.2.1 b)
          simp only [Value.slice.injEq] at e9
          have := sameInts_any B aa ac ca c2 W h (by rw [e9.1]; exact h9) (by have := HA.out.2; omega)
          rw [← HL.out.2] at this; exact this
        have HPush : Hid (∀ (w6 w7 : World) (va : Value), EI.Row w6 va B → (∀ k, va.ownBlock = some k → w5.heap.size ≤ k) → va.oneCell' = true → Below w5.heap.size w5 w6 → Below w6.heap.size w6 w7 → ∃ a' c' W', (Builtin.append_ #[EI.ll, EI.ll] EI.ll #[.slice ga i gc, .slice (some ⟨w7.heap.size, 0, none⟩) 1 1]).run Try.prog (w7.alloc (.cells #[va] EI.sl)) = .ok (.slice a' (i + 1) c') W' ∧ partedL w2 A B (.slice ab nA cb) (.slice ac nB c2) (.slice a' (i + 1) c') (.int .i64 ((i + 1 : Nat) : Int)) W') := fun w6 w7 va h1 h2 h3 b6 b7 => by
          have b57 : Below w5.heap.size w5 w7 := b6.trans (b7.mono b6.size)
          have hsz := HR.out.2.2.2.size
          obtain ⟨a', c', W', hap, G', bG, hk⟩ := El.Got.push okI HR.out.1 (HR.out.1.lat b57) hsz (Nat.le_trans hsz b57.size) (v := va) (by rw [show partedW A B i = B from HWi.out]; exact El.Row.below h1 b7) h2 h3 (by omega)
          exact ⟨a', c', W', hap, i + 1, a', c', _, rfl, rfl, hlt, G', hk (El.Row.below HR.out.2.1 b57), hk (El.Row.below HR.out.2.2.1 b57), HR.out.2.2.2.trans ((b57.mono hsz).trans bG)⟩
        dsimp only [EI] at HPush
        clear HR
        go_wp2_with first
          | (go_at_call 12; refine (P1 _).mono ?_; clear P1; rintro e w5a ⟨va0, rfl, ra0, na0, ba0⟩)
          | (go_at_call 12; refine (P2 _).mono ?_; clear P2; rintro e w6 ⟨va, rfl, ra, na', ba'⟩; have na := HN0.out w5a ba0 va na'; have ba := ba0.trans (ba'.mono ba0.size); obtain ⟨aa, ca, hva, hva2⟩ := HF.out _ _ ra; subst hva; have hs := HS.out w6 aa ca hva2 ba; clear hva2 na' ba')
          | (go_at_call 13; refine hs.mono ?_; clear hs; rintro e w7 ⟨rfl, b7⟩; obtain ⟨a', c', W', hap, HN⟩ := HPush.out w6 w7 _ ra na rfl ba b7; replace HN := Hid.mk HN; clear b7 ra na ba HPush)
          | (at_builtin; refine wpList_append_eq rfl _ _ _ _ rfl _ _ _ _ rfl rfl hap ?_; clear hap)
        exact ⟨HN.out, by simp only [intOf]; omega⟩
      · have e2 : ((i : Int) == 2) = false := by simp; omega
        by_cases h3 : i = 3
        · have e3 : ((i : Int) == 3) = true := by simp; omega
          have HWi : Hid (partedW A B i = B) := by show partedW A B i = B; unfold partedW; rw [if_pos (.inr h3)]
          clear h2 h3
          have HF : Hid (∀ (va : Value) (W : World), EI.Row W va B → ∃ aa ca, va = .slice aa nB ca ∧ EI.At W aa B) := fun va W h => by
            obtain ⟨aa, ca, e1, e2⟩ := El.Row.lat h
            exact ⟨aa, ca, by rw [HL.out.2]; exact e1, e2⟩
          have HN0 : Hid (∀ w5a : World, Below w5.heap.size w5 w5a → ∀ va : Value, (∀ k, va.ownBlock = some k → w5a.heap.size ≤ k) → ∀ k, va.ownBlock = some k → w5.heap.size ≤ k) := fun w5a b va h k hk => Nat.le_trans b.size (h k hk)
          have HS : Hid (∀ (W : World) (aa : Option Addr) (ca : Nat), EI.At W aa B → Below w5.heap.size w5 W → Calls Try.prog 13 #[.slice aa nB ca, .slice ac nB c2] W fun e w' => e = .returned (.bool true) ∧ Below W.heap.size W w') := fun W aa ca h b => by
            obtain ⟨a9, c9, e9, h9⟩ := El.Row.lat (El.Row.below HR.out.2.2.1 b)
            simp only [Value.slice.injEq] at e9
            have := sameInts_any B aa ac ca c2 W h (by rw [e9.1]; exact h9) (by have := HA.out.2; omega)
            rw [← HL.out.2] at this; exact this
          have HPush : Hid (∀ (w6 w7 : World) (va : Value), EI.Row w6 va B → (∀ k, va.ownBlock = some k → w5.heap.size ≤ k) → va.oneCell' = true → Below w5.heap.size w5 w6 → Below w6.heap.size w6 w7 → ∃ a' c' W', (Builtin.append_ #[EI.ll, EI.ll] EI.ll #[.slice ga i gc, .slice (some ⟨w7.heap.size, 0, none⟩) 1 1]).run Try.prog (w7.alloc (.cells #[va] EI.sl)) = .ok (.slice a' (i + 1) c') W' ∧ partedL w2 A B (.slice ab nA cb) (.slice ac nB c2) (.slice a' (i + 1) c') (.int .i64 ((i + 1 : Nat) : Int)) W') := fun w6 w7 va h1 h2 h3 b6 b7 => by
            have b57 : Below w5.heap.size w5 w7 := b6.trans (b7.mono b6.size)
            have hsz := HR.out.2.2.2.size
            obtain ⟨a', c', W', hap, G', bG, hk⟩ := El.Got.push okI HR.out.1 (HR.out.1.lat b57) hsz (Nat.le_trans hsz b57.size) (v := va) (by rw [show partedW A B i = B from HWi.out]; exact El.Row.below h1 b7) h2 h3 (by omega)
            exact ⟨a', c', W', hap, i + 1, a', c', _, rfl, rfl, hlt, G', hk (El.Row.below HR.out.2.1 b57), hk (El.Row.below HR.out.2.2.1 b57), HR.out.2.2.2.trans ((b57.mono hsz).trans bG)⟩
          dsimp only [EI] at HPush
          clear HR
          go_wp2_with first
            | (go_at_call 12; refine (P1 _).mono ?_; clear P1; rintro e w5a ⟨va0, rfl, ra0, na0, ba0⟩)
            | (go_at_call 12; refine (P2 _).mono ?_; clear P2; rintro e w6 ⟨va, rfl, ra, na', ba'⟩; have na := HN0.out w5a ba0 va na'; have ba := ba0.trans (ba'.mono ba0.size); obtain ⟨aa, ca, hva, hva2⟩ := HF.out _ _ ra; subst hva; have hs := HS.out w6 aa ca hva2 ba; clear hva2 na' ba')
            | (go_at_call 13; refine hs.mono ?_; clear hs; rintro e w7 ⟨rfl, b7⟩; obtain ⟨a', c', W', hap, HN⟩ := HPush.out w6 w7 _ ra na rfl ba b7; replace HN := Hid.mk HN; clear b7 ra na ba HPush)
            | (at_builtin; refine wpList_append_eq rfl _ _ _ _ rfl _ _ _ _ rfl rfl hap ?_; clear hap)
          exact ⟨HN.out, by simp only [intOf]; omega⟩
        · have e3 : ((i : Int) == 3) = false := by simp; omega
          have HWi : Hid (partedW A B i = A) := by show partedW A B i = A; unfold partedW; rw [if_neg (by omega)]
          clear h2 h3
          have HF : Hid (∀ (va : Value) (W : World), EI.Row W va A → ∃ aa ca, va = .slice aa nA ca ∧ EI.At W aa A) := fun va W h => by
            obtain ⟨aa, ca, e1, e2⟩ := El.Row.lat h
            exact ⟨aa, ca, by rw [HL.out.1]; exact e1, e2⟩
          have HN0 : Hid (∀ w5a : World, Below w5.heap.size w5 w5a → ∀ va : Value, (∀ k, va.ownBlock = some k → w5a.heap.size ≤ k) → ∀ k, va.ownBlock = some k → w5.heap.size ≤ k) := fun w5a b va h k hk => Nat.le_trans b.size (h k hk)
          have HS : Hid (∀ (W : World) (aa : Option Addr) (ca : Nat), EI.At W aa A → Below w5.heap.size w5 W → Calls Try.prog 13 #[.slice aa nA ca, .slice ab nA cb] W fun e w' => e = .returned (.bool true) ∧ Below W.heap.size W w') := fun W aa ca h b => by
            obtain ⟨a9, c9, e9, h9⟩ := El.Row.lat (El.Row.below HR.out.2.1 b)
            simp only [Value.slice.injEq] at e9
            have := sameInts_any A aa ab ca cb W h (by rw [e9.1]; exact h9) (by have := HA.out.1; omega)
            rw [← HL.out.1] at this; exact this
          have HPush : Hid (∀ (w6 w7 : World) (va : Value), EI.Row w6 va A → (∀ k, va.ownBlock = some k → w5.heap.size ≤ k) → va.oneCell' = true → Below w5.heap.size w5 w6 → Below w6.heap.size w6 w7 → ∃ a' c' W', (Builtin.append_ #[EI.ll, EI.ll] EI.ll #[.slice ga i gc, .slice (some ⟨w7.heap.size, 0, none⟩) 1 1]).run Try.prog (w7.alloc (.cells #[va] EI.sl)) = .ok (.slice a' (i + 1) c') W' ∧ partedL w2 A B (.slice ab nA cb) (.slice ac nB c2) (.slice a' (i + 1) c') (.int .i64 ((i + 1 : Nat) : Int)) W') := fun w6 w7 va h1 h2 h3 b6 b7 => by
            have b57 : Below w5.heap.size w5 w7 := b6.trans (b7.mono b6.size)
            have hsz := HR.out.2.2.2.size
            obtain ⟨a', c', W', hap, G', bG, hk⟩ := El.Got.push okI HR.out.1 (HR.out.1.lat b57) hsz (Nat.le_trans hsz b57.size) (v := va) (by rw [show partedW A B i = A from HWi.out]; exact El.Row.below h1 b7) h2 h3 (by omega)
            exact ⟨a', c', W', hap, i + 1, a', c', _, rfl, rfl, hlt, G', hk (El.Row.below HR.out.2.1 b57), hk (El.Row.below HR.out.2.2.1 b57), HR.out.2.2.2.trans ((b57.mono hsz).trans bG)⟩
          dsimp only [EI] at HPush
          clear HR
          go_wp2_with first
            | (go_at_call 12; refine (P1 _).mono ?_; clear P1; rintro e w6 ⟨va, rfl, ra, na, ba⟩; obtain ⟨aa, ca, hva, hva2⟩ := HF.out _ _ ra; subst hva; have hs := HS.out w6 aa ca hva2 ba; clear hva2)
            | (go_at_call 13; refine hs.mono ?_; clear hs; rintro e w7 ⟨rfl, b7⟩; obtain ⟨a', c', W', hap, HN⟩ := HPush.out w6 w7 _ ra na rfl ba b7; replace HN := Hid.mk HN; clear b7 ra na ba HPush)
            | (at_builtin; refine wpList_append_eq rfl _ _ _ _ rfl _ _ _ _ rfl rfl hap ?_; clear hap)
          exact ⟨HN.out, by simp only [intOf]; omega⟩
    · have i1 : ¬ (i : Int) < 5 := by omega
      obtain rfl : i = 5 := by omega
      have hgl : gs.length = 5 := by
        obtain ⟨a', c', e', -⟩ := slice_form HR.out.1.row
        simp only [Value.slice.injEq] at e'
        exact e'.2.1.symm
      obtain ⟨s0, s1, s2, s3, s4, rfl⟩ : ∃ s0 s1 s2 s3 s4, gs = [s0, s1, s2, s3, s4] := by
        rcases gs with _ | ⟨a, _ | ⟨b, _ | ⟨c, _ | ⟨d, _ | ⟨e, _ | ⟨f, l⟩⟩⟩⟩⟩⟩ <;> simp at hgl
        exact ⟨a, b, c, d, e, rfl⟩
      obtain ⟨gg, hga⟩ : ∃ gg, ga = some ⟨gg, 0, none⟩ := by
        rcases HR.out.1.row.2 with ⟨e, e2⟩ | ⟨g, cap, cur, e, -⟩
        · simp at e2
        · simp only [Value.slice.injEq] at e
          exact ⟨g, e.1⟩
      subst hga
      have hcell : ∀ (j : Nat) (s : Value), [s0, s1, s2, s3, s4][j]? = some s → w5.cell? ⟨gg, j, none⟩ = some s := fun j s hs => by
        rw [World.ownsRow.cellAt HR.out.1.row j (by have := (List.getElem?_eq_some_iff.1 hs).1; omega), hs]
      have hform : ∀ (j : Nat) (s : Value), [s0, s1, s2, s3, s4][j]? = some s → ∃ a c, s = .slice a (partedW A B j).length c ∧ EI.At w5 a (partedW A B j) := fun j s hs => El.Row.lat (HR.out.1.each j s hs)
      obtain ⟨a0, d0, rfl, l0⟩ := hform 0 s0 rfl
      obtain ⟨a1, d1, rfl, l1⟩ := hform 1 s1 rfl
      obtain ⟨a2, d2, rfl, l2⟩ := hform 2 s2 rfl
      obtain ⟨a3, d3, rfl, l3⟩ := hform 3 s3 rfl
      obtain ⟨a4, d4, rfl, l4⟩ := hform 4 s4 rfl
      have q0 := hcell 0 _ rfl
      have q1 := hcell 1 _ rfl
      have q2 := hcell 2 _ rfl
      have q3 := hcell 3 _ rfl
      have q4 := hcell 4 _ rfl
      have HAP : Hid (∀ W, Below w5.heap.size w5 W → Calls Try.prog 14 #[.slice (some ⟨gg, 0, none⟩) 5 gc] W fun e w' => e = .returned (.bool true) ∧ Below w.heap.size w w') := fun W hW => by
        have FX := HR.out.1.lat hW
        have bx : Below w2.heap.size w2 W := HR.out.2.2.2.trans (hW.mono HR.out.2.2.2.size)
        refine (apartI_any (.slice (some ⟨gg, 0, none⟩) 5 gc) _ _ W FX.ap (by simp) (fun n hn => by
          obtain ⟨j, -, rfl⟩ := List.mem_map.1 hn
          have h1 := HA.out.1
          have h2 := HA.out.2
          unfold partedW
          split <;> omega)).mono ?_
        rintro e w' ⟨rfl, st⟩
        have st2 : Below w2.heap.size W w' := st.toBelow (fun b hb e => by
          obtain ⟨j, s, h1, h2⟩ := e
          have := FX.new j s b h1 h2
          omega) bx.size
        exact ⟨rfl, HW.out.trans ((bx.trans st2).mono HW.out.size)⟩
      have e0 : partedW A B 0 = A := rfl
      have e1 : partedW A B 1 = A := rfl
      have e2 : partedW A B 2 = B := rfl
      have e3 : partedW A B 3 = B := rfl
      have e4 : partedW A B 4 = A := rfl
      have lb : EI.At w5 ab A := by
        obtain ⟨a9, c9, e9, h9⟩ := El.Row.lat HR.out.2.1
        simp only [Value.slice.injEq] at e9
        rw [e9.1]; exact h9
      have lc : EI.At w5 ac B := by
        obtain ⟨a9, c9, e9, h9⟩ := El.Row.lat HR.out.2.2.1
        simp only [Value.slice.injEq] at e9
        rw [e9.1]; exact h9
      rw [e0] at l0 q0
      rw [e1] at l1 q1
      rw [e2] at l2 q2
      rw [e3] at l3 q3
      rw [e4] at l4 q4
      have hb1 := HA.out.1
      have hb2 := HA.out.2
      have HS1 : ∀ a c W, Below w5.heap.size w5 W → EI.At w5 a A → Calls Try.prog 13 #[.slice a A.length c, .slice ab A.length cb] W fun e w' => e = .returned (.bool true) ∧ Below W.heap.size W w' := fun a c W hW hl => sameInts_any A a ab c cb W (hl.below hW) (lb.below hW) (by omega)
      have HS2 : ∀ a c W, Below w5.heap.size w5 W → EI.At w5 a B → Calls Try.prog 13 #[.slice a B.length c, .slice ac B.length c2] W fun e w' => e = .returned (.bool true) ∧ Below W.heap.size W w' := fun a c W hW hl => sameInts_any B a ac c c2 W (hl.below hW) (lc.below hW) (by omega)
      rw [← HL.out.1] at HS1 q0 q1 q4
      rw [← HL.out.2] at HS2 q2 q3
      have h0 := fun W hW => HS1 a0 d0 W hW l0
      have h1 := fun W hW => HS1 a1 d1 W hW l1
      have h4 := fun W hW => HS1 a4 d4 W hW l4
      have h2 := fun W hW => HS2 a2 d2 W hW l2
      have h3 := fun W hW => HS2 a3 d3 W hW l3
      have bb := Below.refl w5.heap.size w5
      clear l0 l1 l2 l3 l4 e0 e1 e2 e3 e4 hcell hform lb lc hgl HR hlt i1 HS1 HS2 hb1 hb2
      go_wp2_with first
        | (go_at_call 13; refine (h0 _ bb).mono ?_; clear h0; rintro e wz ⟨rfl, bn⟩; replace bb := bb.trans (bn.mono bb.size); replace q1 := cell_lat bn q1; replace q2 := cell_lat bn q2; replace q3 := cell_lat bn q3; replace q4 := cell_lat bn q4; clear bn)
        | (go_at_call 13; refine (h1 _ bb).mono ?_; clear h1; rintro e wz ⟨rfl, bn⟩; replace bb := bb.trans (bn.mono bb.size); replace q2 := cell_lat bn q2; replace q3 := cell_lat bn q3; replace q4 := cell_lat bn q4; clear bn)
        | (go_at_call 13; refine (h4 _ bb).mono ?_; clear h4; rintro e wz ⟨rfl, bn⟩; replace bb := bb.trans (bn.mono bb.size); replace q2 := cell_lat bn q2; replace q3 := cell_lat bn q3; clear bn)
        | (go_at_call 13; refine (h2 _ bb).mono ?_; clear h2; rintro e wz ⟨rfl, bn⟩; replace bb := bb.trans (bn.mono bb.size); replace q3 := cell_lat bn q3; clear bn)
        | (go_at_call 13; refine (h3 _ bb).mono ?_; clear h3; rintro e wz ⟨rfl, bn⟩; replace bb := bb.trans (bn.mono bb.size); clear bn)
        | (go_at_call 14; refine (HAP.out _ bb).mono ?_; clear HAP; rintro e wz ⟨rfl, bz⟩; have HE := Hid.mk bz; clear bz)
      go_ret
      exact ⟨rfl, HE.out⟩
end Go.Proofs.Ytfjbabiobobboaa
