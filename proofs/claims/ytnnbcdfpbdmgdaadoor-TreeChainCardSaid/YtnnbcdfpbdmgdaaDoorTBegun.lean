/-
  DERIVED. What is asked first.
-/
import Derived.Test.YtnnbcdfpbdmgdaaDoorTLaw0
set_option linter.unusedVariables false
set_option linter.unusedSimpArgs false
namespace Go.Proofs.YtnnbcdfpbdmgdaaDoor
open Go.RowKit Go.Maps Go.Sort Go.Proofs.BitMath Go.Proofs.TreeMath
/-- Eight bytes, the last one c. -/
def cd8 (c : UInt8) : Cd 8 := ⟨⟨#[0, 0, 0, 0, 0, 0, 0, c]⟩, rfl⟩
theorem cd8_inj {a b : UInt8} (h : cd8 a = cd8 b) : a = b := by
  have := congrArg (fun c : Cd 8 => c.1.data) h
  simpa [cd8] using this
set_option maxHeartbeats 1000000 in
set_option maxRecDepth 100000 in
theorem coded_any (c : UInt8) (w : World) : Calls Tryd.prog 31 #[.int .u8 c.toNat] w fun r w' => r = .returned (.string (cd8 c).1) ∧ Below w.heap.size w w' := by
  have hc : (w.alloc (.cells #[.int .u8 0, .int .u8 0, .int .u8 0, .int .u8 0, .int .u8 0, .int .u8 0, .int .u8 0, .int .u8 c.toNat] 5)).ownsRow 0 5 1 (.slice (some ⟨w.heap.size, 0, none⟩) [0, 0, 0, 0, 0, 0, 0, c].length 8) [0, 0, 0, 0, 0, 0, 0, c].length (([0, 0, 0, 0, 0, 0, 0, c] : List UInt8).map BV) :=
    ⟨rfl, .inr ⟨w.heap.size, 8, _, rfl, Nat.zero_le _, Array.getElem?_push_size, Nat.le_refl _, by decide, rfl, rfl⟩⟩
  have hconv : (convert 56 9 (.slice (some ⟨w.heap.size, 0, none⟩) 8 8)).run Tryd.prog (w.alloc (.cells #[.int .u8 0, .int .u8 0, .int .u8 0, .int .u8 0, .int .u8 0, .int .u8 0, .int .u8 0, .int .u8 c.toNat] 5)) = .ok (.string (cd8 c).1) (w.alloc (.cells #[.int .u8 0, .int .u8 0, .int .u8 0, .int .u8 0, .int .u8 0, .int .u8 0, .int .u8 0, .int .u8 c.toNat] 5)) := conv_row _ hc
  clear hc
  go_enter Tryd.func31, Tryd.ntmps31
  go_wp2
  go_ret
  exact ⟨rfl, (Below.refl _ _).alloc (Nat.le_refl _) _⟩
theorem keep4 {w w' : World} {gl gn : Nat} {a b c d : Value} (hb : Below w.heap.size w w') (h : w.cell? ⟨gl, 5, none⟩ = some a ∧ w.cell? ⟨gl, 3, none⟩ = some b ∧ w.cell? ⟨gn, 2, none⟩ = some c ∧ w.cell? ⟨gn, 5, none⟩ = some d) : w'.cell? ⟨gl, 5, none⟩ = some a ∧ w'.cell? ⟨gl, 3, none⟩ = some b ∧ w'.cell? ⟨gn, 2, none⟩ = some c ∧ w'.cell? ⟨gn, 5, none⟩ = some d := ⟨cell_lat hb h.1, cell_lat hb h.2.1, cell_lat hb h.2.2.1, cell_lat hb h.2.2.2⟩
abbrev T1 : List (Nd (Cd 8)) := TreeMath.hang dC [] (cd8 0)
abbrev T2 : List (Nd (Cd 8)) := TreeMath.hang dC T1 (cd8 1)
abbrev T3 : List (Nd (Cd 8)) := TreeMath.hang dC T2 (cd8 7)
theorem wfN : WF dC ([] : List (Nd (Cd 8))) := WF.nil _
theorem codes1 : T1.map Nd.code = [cd8 0] := by rw [hang_codes wfN]; rfl
theorem wf1 : WF dC T1 := hang_wf dC_zero wfN (fun n hn => by cases hn)
theorem codes2 : T2.map Nd.code = [cd8 0, cd8 1] := by rw [hang_codes wf1, codes1]; rfl
theorem notin1 : cd8 1 ∉ T1.map Nd.code := by rw [codes1]; intro h; simp at h; exact absurd (cd8_inj h) (by decide)
theorem wf2 : WF dC T2 := hang_wf dC_zero wf1 (fun n hn e => notin1 (List.mem_map.2 ⟨n, hn, e⟩))
theorem notin2 : cd8 7 ∉ T2.map Nd.code := by
  rw [codes2]; intro h; simp at h
  rcases h with h | h
  · exact absurd (cd8_inj h) (by decide)
  · exact absurd (cd8_inj h) (by decide)
theorem lives3 : lives T3 = [cd8 0, cd8 1, cd8 7] := by rw [hang_lives wf2, hang_lives wf1, hang_lives wfN]; rfl
theorem len1 : T1.length = 1 := hang_len wfN _
theorem len2 : T2.length = 2 := by rw [hang_len wf1, len1]
theorem len3 : T3.length = 3 := by rw [hang_len wf2, len2]
theorem d00 : dC (cd8 0) (cd8 0) = 0 := by decide
theorem d10 : dC (cd8 1) (cd8 0) = 1 := by decide
theorem d70 : dC (cd8 7) (cd8 0) = 3 := by decide
theorem d03 : dC (cd8 0) (cd8 3) = 2 := by decide
theorem d13 : dC (cd8 1) (cd8 3) = 1 := by decide
theorem d73 : dC (cd8 7) (cd8 3) = 1 := by decide
theorem nd3 : ([cd8 0, cd8 1, cd8 7] : List (Cd 8)).Nodup := by
  have h1 : cd8 0 ≠ cd8 1 := fun h => absurd (cd8_inj h) (by decide)
  have h2 : cd8 0 ≠ cd8 7 := fun h => absurd (cd8_inj h) (by decide)
  have h3 : cd8 1 ≠ cd8 7 := fun h => absurd (cd8_inj h) (by decide)
  simp [h1, h2, h3]
theorem ans_one : ansL 9223372036854775807 1 (cd8 0) (lives T3) = [(0, cd8 0), (1, cd8 1)] := by
  rw [lives3]
  refine ansL_eq nd3 (by simp [hlt]) fun x => ?_
  rw [bdM_all 1 _ _ (by decide)]
  obtain ⟨j, c⟩ := x
  simp only [List.mem_cons, Prod.mk.injEq, List.not_mem_nil, or_false]
  constructor
  · rintro (⟨rfl, rfl⟩ | ⟨rfl, rfl⟩)
    · exact ⟨.inl rfl, d00, by decide⟩
    · exact ⟨.inr (.inl rfl), d10, by decide⟩
  · rintro ⟨rfl | rfl | rfl, h2, h3⟩
    · exact .inl ⟨by rw [← h2, d00], rfl⟩
    · exact .inr ⟨by rw [← h2, d10], rfl⟩
    · rw [d70] at h2; omega
theorem bd_two : bdM 1 64 (cd8 3) [cd8 0, cd8 1, cd8 7] = 1 := by
  unfold bdM
  have e : dqs (cd8 3) [cd8 0, cd8 1, cd8 7] = [2, 1, 1] := by simp [dqs, d03, d13, d73]
  rw [e]
  exact lower_one (by omega) (by omega) (by decide) (.inr (by decide))
theorem ans_two : ansL 1 64 (cd8 3) (lives T3) = [(1, cd8 1), (1, cd8 7)] := by
  rw [lives3]
  refine ansL_eq nd3 (by simp [hlt, byC, cd8]; decide) fun x => ?_
  rw [bd_two]
  obtain ⟨j, c⟩ := x
  simp only [List.mem_cons, Prod.mk.injEq, List.not_mem_nil, or_false]
  constructor
  · rintro (⟨rfl, rfl⟩ | ⟨rfl, rfl⟩)
    · exact ⟨.inr (.inl rfl), d13, by decide⟩
    · exact ⟨.inr (.inr rfl), d73, by decide⟩
  · rintro ⟨rfl | rfl | rfl, h2, h3⟩
    · rw [d03] at h2; omega
    · exact .inl ⟨by rw [← h2, d13], rfl⟩
    · exact .inr ⟨by rw [← h2, d73], rfl⟩
theorem lk_ge (a b : Nat) (ha : a ≤ 3) (hb : b ≤ 3) : lkN (lkN 0 a) b = ((a + b : Nat) : Int) := by
  unfold lkN
  rw [IntKind.wrap_i64, IntKind.wrap_i64]
  push_cast
  omega
set_option maxHeartbeats 4000000 in
set_option maxRecDepth 100000 in
theorem begun_any (W : World) (ht : Tab W) : Calls Tryd.prog 9 #[] W fun r w' => r = .returned (.bool true) ∧ Below W.heap.size W w' := by
  have hW0 : 0 < W.heap.size := World.block_lt_of_cell? W ⟨0, 0, none⟩ (ht 0 (by omega))
  have htW : ∀ {w : World}, Below W.heap.size W w → Tab w := fun {w} b => ht.below b hW0
  go_enter Tryd.func9, Tryd.ntmps9
  go_wp2_with fail
  refine (new_yes 64 8 W (by decide) (by decide)).mono ?_
  rintro e w1 ⟨rfl, htr1, hb1⟩
  have o1 : OT W w1 W.heap.size 64 [] [] [] ⟨0, 0, 0, 0⟩ := ⟨htr1, (fun k hk => by
    rcases hk with rfl | hk | hk
    · exact Nat.le_refl _
    · cases hk
    · cases hk), hb1⟩
  clear htr1 hb1
  go_wp2_with fail
  refine (coded_any 0 w1).mono ?_
  rintro e w2 ⟨rfl, b2⟩
  have o2 := o1.below b2
  clear o1 b2
  have s2 := o2.be.size
  go_wp2_with fail
  refine (add_fresh (cd8 0) w2 o2.tr (htW o2.be) (by omega) (by simp) (by simp)).mono ?_
  rintro e w3 ⟨rfl, m3⟩
  obtain ⟨bs3, ms3, x3, o3, l3⟩ := o2.moved m3
  clear o2 m3
  go_wp2_with fail
  refine (coded_any 1 w3).mono ?_
  rintro e w4 ⟨rfl, b4⟩
  have o4 := o3.below b4
  have s4 := o4.be.size
  clear o3 b4
  go_wp2_with fail
  refine (add_fresh (cd8 1) w4 o4.tr (htW o4.be) (by omega) (by rw [len1]; omega) notin1).mono ?_
  rintro e w5 ⟨rfl, m5⟩
  obtain ⟨bs5, ms5, x5, o5, l5⟩ := o4.moved m5
  rw [l3] at l5
  clear o4 m5
  go_wp2_with fail
  refine (coded_any 7 w5).mono ?_
  rintro e w6 ⟨rfl, b6⟩
  have o6 := o5.below b6
  have s6 := o6.be.size
  clear o5 b6
  go_wp2_with fail
  refine (add_fresh (cd8 7) w6 o6.tr (htW o6.be) (by omega) (by rw [len2]; omega) notin2).mono ?_
  rintro e w7 ⟨rfl, m7⟩
  obtain ⟨bs7, ms7, x7, o7, l7⟩ := o6.moved m7
  rw [l5] at l7
  clear o6 m7
  go_wp2_with fail
  refine (coded_any 0 w7).mono ?_
  rintro e w8 ⟨rfl, b8⟩
  have o8 := o7.below b8
  have s8 := o8.be.size
  clear o7 b8
  go_wp2_with fail
  refine (within_any (cd8 0).1 1 w8 o8.tr (htW o8.be) hW0 (by rw [len3]; omega)).mono ?_
  rintro e w9 (⟨h1, -⟩ | ⟨-, h1, -⟩ | ⟨hs9, lv, nv9, -, -, rfl, sr9⟩)
  · exact absurd (cd8 0).2 h1
  · exact absurd ⟨by omega, by omega⟩ h1
  have o9 := o8.srch sr9
  have r9 := sr9.row
  rw [show (⟨(cd8 0).1, hs9⟩ : Cd 8) = cd8 0 from rfl, show (1 : Int).toNat = 1 from rfl, ans_one] at r9
  have g9 := sr9.ge
  rw [show (⟨(cd8 0).1, hs9⟩ : Cd 8) = cd8 0 from rfl, show (1 : Int).toNat = 1 from rfl, ans_one] at g9
  have n9 := sr9.le
  rw [len3] at n9
  clear o8 sr9
  go_wp2_with fail
  refine (coded_any 3 w9).mono ?_
  rintro e w10 ⟨rfl, b10⟩
  have o10 := o9.below b10
  have s10 := o10.be.size
  have r10 := row_kept (F := fun _ => False) r9 (.below b10) (fun _ _ hh => hh)
  clear o9 b10 r9
  go_wp2_with fail
  refine (nearest_any (cd8 3).1 1 w10 o10.tr (htW o10.be) hW0 (by rw [len3]; omega)).mono ?_
  rintro e w11 (⟨h1, -⟩ | ⟨-, h1, -⟩ | ⟨-, h1, -⟩ | ⟨hs11, nv, nv11, -, -, rfl, sr11⟩)
  · exact absurd (cd8 3).2 h1
  · exact absurd ⟨by omega, by omega⟩ h1
  · exact absurd h1 (by decide)
  have o11 := o10.srch sr11
  have rl11 := row_srch o10.tr sr11.st r10 (by decide)
  have rn11 := sr11.row
  rw [show (⟨(cd8 3).1, hs11⟩ : Cd 8) = cd8 3 from rfl, show (1 : Int).toNat = 1 from rfl, ans_two] at rn11
  have g11 := sr11.ge
  rw [show (⟨(cd8 3).1, hs11⟩ : Cd 8) = cd8 3 from rfl, show (1 : Int).toNat = 1 from rfl, ans_two] at g11
  have n11 := sr11.le
  rw [len3] at n11
  clear o10 sr11 r10
  obtain ⟨gl, cl, e1, y1, -, y0⟩ := hit_cell rl11 1 (by decide)
  obtain ⟨gn, cn, e2, -, -, y2⟩ := hit_cell rn11 0 (by decide)
  obtain ⟨gn', cn', e3, -, -, y3⟩ := hit_cell rn11 1 (by decide)
  rw [e2] at e3
  cases e3
  subst e1 e2
  have hlk := looked_any w11 o11.tr
  have elk : ({ ({ x7 with looked := lkN x7.looked nv9 } : Num) with looked := lkN (lkN x7.looked nv9) nv11 } : Num).looked = ((nv9 + nv11 : Nat) : Int) := by
    show lkN (lkN x7.looked nv9) nv11 = _
    rw [l7]
    exact lk_ge nv9 nv11 n9 n11
  rw [elk] at hlk
  have hbe := o11.be
  have hge : ¬ ((nv9 + nv11 : Nat) : Int) < 3 := by
    have h5 : 2 ≤ nv9 := g9
    have h6 : 2 ≤ nv11 := g11
    omega
  obtain ⟨nn, hnn⟩ : ∃ nn : Int, nn = ((nv9 + nv11 : Nat) : Int) := ⟨_, rfl⟩
  rw [← hnn] at hlk hge
  have z0 : w11.cell? ⟨gl, 5, none⟩ = some (.string (cd8 1).1) := y0
  have z1 : w11.cell? ⟨gl, 3, none⟩ = some (.int .i64 1) := y1
  have z2 : w11.cell? ⟨gn, 2, none⟩ = some (.string (cd8 1).1) := y2
  have z3 : w11.cell? ⟨gn, 5, none⟩ = some (.string (cd8 7).1) := y3
  have HB := Hid.mk ((Below.refl w11.heap.size w11).drew)
  have hc1 : ∀ w, Calls Tryd.prog 31 #[.int .u8 1] w fun r w' => r = .returned (.string (cd8 1).1) ∧ Below w.heap.size w w' := fun w => coded_any 1 w
  have hc7 : ∀ w, Calls Tryd.prog 31 #[.int .u8 7] w fun r w' => r = .returned (.string (cd8 7).1) ∧ Below w.heap.size w w' := fun w => coded_any 7 w
  have HE := Hid.mk hbe
  clear y0 y1 y2 y3 hbe hnn elk o11 rl11 rn11 g9 g11 n9 n11 l3 l5 l7
  generalize (cd8 1).1 = s1 at hc1 z0 z2 ⊢
  generalize (cd8 7).1 = s7 at hc7 z3 ⊢
  have HC1 := Hid.mk hc1
  have HC7 := Hid.mk hc7
  clear hc1 hc7
  go_wp2_with (go_at_call 19; refine hlk.mono ?_; rintro e w' ⟨rfl, he⟩; subst he)
  refine wp_region_held_drew (S := fun w' => w'.cell? ⟨gl, 5, none⟩ = some (.string s1) ∧ w'.cell? ⟨gl, 3, none⟩ = some (.int .i64 1) ∧ w'.cell? ⟨gn, 2, none⟩ = some (.string s1) ∧ w'.cell? ⟨gn, 5, none⟩ = some (.string s7)) (by kernel_rfl) ?_ (fun hHeld => ?_)
  · exact ⟨z0, z1, z2, z3⟩
  refine wpAnyH_take (i := 0) (oi := { dst := some 82, op := Op.move (Operand.tmp 8), type := 32, pos := "plain.go:28", after := #[], guard := none }) (v := ?va0) rfl (by kernel_rfl) (by kernel_rfl) (by kernel_rfl) (fun _ _ _ h => h) (Or.inl ⟨by rfl, ?ha0⟩) (by assumption) ?ra0
  case ha0 => (intro w0 hSw; (try dsimp only at hSw); go_simp; try (with_reducible rfl))
  simp only [Act.put, List.setIfInBounds_toArray, List.set_cons_zero, List.set_cons_succ]
  refine wpAnyH_take (i := 1) (oi := { dst := some 83, op := Op.indexAddr 32 (Operand.tmp 82) (Operand.const (Value.int IntKind.i64 1)), type := 0, pos := "plain.go:28", after := #[{ on := 0, ground := Ground.data }], guard := none }) (v := ?va1) rfl (by kernel_rfl) (by kernel_rfl) (by kernel_rfl) (fun _ _ _ h => h) (Or.inl ⟨by rfl, ?ha1⟩) (by assumption) ?ra1
  case ha1 => (intro w0 hSw; (try dsimp only at hSw); go_simp; try (with_reducible rfl))
  simp only [Act.put, List.setIfInBounds_toArray, List.set_cons_zero, List.set_cons_succ]
  refine wpAnyH_take (i := 2) (oi := { dst := some 84, op := Op.fieldAddr 36 (Operand.tmp 83) 2, type := 0, pos := "plain.go:28", after := #[{ on := 1, ground := Ground.data }], guard := none }) (v := ?va2) rfl (by kernel_rfl) (by kernel_rfl) (by kernel_rfl) (fun _ _ _ h => h) (Or.inl ⟨by rfl, ?ha2⟩) (by assumption) ?ra2
  case ha2 => (intro w0 hSw; (try dsimp only at hSw); go_simp; try (with_reducible rfl))
  simp only [Act.put, List.setIfInBounds_toArray, List.set_cons_zero, List.set_cons_succ]
  refine wpAnyH_take (i := 3) (oi := { dst := some 85, op := Op.load 9 (Operand.tmp 84), type := 9, pos := "plain.go:28", after := #[{ on := 2, ground := Ground.data }], guard := none }) (v := ?va3) rfl (by kernel_rfl) (by kernel_rfl) (by kernel_rfl) (fun _ _ _ h => h) (Or.inl ⟨by rfl, ?ha3⟩) (by assumption) ?ra3
  case ha3 => (intro w0 hSw; (try dsimp only at hSw); go_simp; try (with_reducible rfl))
  simp only [Act.put, List.setIfInBounds_toArray, List.set_cons_zero, List.set_cons_succ]
  refine wpAnyH_ready (rs := [4]) (by kernel_rfl) (by simp) ?_
  refine AllReadyH.cons rfl (fun K hK => ?_) AllReadyH.nil
  go_simp
  go_wp2_with (go_at_call 31; (first | refine (HC1.out _).mono ?_ | refine (HC7.out _).mono ?_); rintro e' wq ⟨rfl, hb'⟩; have hB := chain HB.out hb' (Nat.le_refl _); clear HB; have HB := Hid.mk hB)
  refine hK.out _ _ ?_ (fun hHeld => ?_)
  · exact keep4 hB ⟨z0, z1, z2, z3⟩
  clear hK K
  refine wpAnyH_take (i := 5) (oi := { dst := some 87, op := Op.binOp BinOp.eql 9 (Operand.tmp 85) (Operand.tmp 86) 9, type := 4, pos := "plain.go:28", after := #[{ on := 3, ground := Ground.data }, { on := 4, ground := Ground.data }], guard := none }) (v := ?va5) rfl (by kernel_rfl) (by kernel_rfl) (by kernel_rfl) (fun _ _ _ h => h) (Or.inl ⟨by rfl, ?ha5⟩) (by assumption) ?ra5
  case ha5 => (intro w0 hSw; (try dsimp only at hSw); go_simp; try (with_reducible rfl))
  simp only [Act.put, List.setIfInBounds_toArray, List.set_cons_zero, List.set_cons_succ]
  refine wpAnyH_take (i := 6) (oi := { dst := some 88, op := Op.move (Operand.tmp 87), type := 4, pos := "plain.go:28", after := #[{ on := 5, ground := Ground.data }, { on := 4, ground := Ground.chain }], guard := none }) (v := ?va6) rfl (by kernel_rfl) (by kernel_rfl) (by kernel_rfl) (fun _ _ _ h => h) (Or.inl ⟨by rfl, ?ha6⟩) (by assumption) ?ra6
  case ha6 => (intro w0 hSw; (try dsimp only at hSw); go_simp; try (with_reducible rfl))
  simp only [Act.put, List.setIfInBounds_toArray, List.set_cons_zero, List.set_cons_succ]
  refine wpAnyH_take (i := 7) (oi := { dst := some 89, op := Op.move (Operand.tmp 8), type := 32, pos := "plain.go:28", after := #[{ on := 6, ground := Ground.guard }], guard := some (6, true) }) (v := ?va7) rfl (by kernel_rfl) (by kernel_rfl) (by kernel_rfl) (fun _ _ _ h => h) (Or.inl ⟨by rfl, ?ha7⟩) (by assumption) ?ra7
  case ha7 => (intro w0 hSw; (try dsimp only at hSw); go_simp; try (with_reducible rfl))
  simp only [Act.put, List.setIfInBounds_toArray, List.set_cons_zero, List.set_cons_succ]
  refine wpAnyH_take (i := 8) (oi := { dst := some 90, op := Op.indexAddr 32 (Operand.tmp 89) (Operand.const (Value.int IntKind.i64 1)), type := 0, pos := "plain.go:28", after := #[{ on := 7, ground := Ground.data }, { on := 6, ground := Ground.guard }], guard := some (6, true) }) (v := ?va8) rfl (by kernel_rfl) (by kernel_rfl) (by kernel_rfl) (fun _ _ _ h => h) (Or.inl ⟨by rfl, ?ha8⟩) (by assumption) ?ra8
  case ha8 => (intro w0 hSw; (try dsimp only at hSw); go_simp; try (with_reducible rfl))
  simp only [Act.put, List.setIfInBounds_toArray, List.set_cons_zero, List.set_cons_succ]
  refine wpAnyH_take (i := 9) (oi := { dst := some 91, op := Op.fieldAddr 36 (Operand.tmp 90) 0, type := 0, pos := "plain.go:28", after := #[{ on := 8, ground := Ground.data }, { on := 6, ground := Ground.guard }], guard := some (6, true) }) (v := ?va9) rfl (by kernel_rfl) (by kernel_rfl) (by kernel_rfl) (fun _ _ _ h => h) (Or.inl ⟨by rfl, ?ha9⟩) (by assumption) ?ra9
  case ha9 => (intro w0 hSw; (try dsimp only at hSw); go_simp; try (with_reducible rfl))
  simp only [Act.put, List.setIfInBounds_toArray, List.set_cons_zero, List.set_cons_succ]
  refine wpAnyH_take (i := 10) (oi := { dst := some 92, op := Op.load 3 (Operand.tmp 91), type := 3, pos := "plain.go:28", after := #[{ on := 9, ground := Ground.data }, { on := 6, ground := Ground.guard }], guard := some (6, true) }) (v := ?va10) rfl (by kernel_rfl) (by kernel_rfl) (by kernel_rfl) (fun _ _ _ h => h) (Or.inl ⟨by rfl, ?ha10⟩) (by assumption) ?ra10
  case ha10 => (intro w0 hSw; (try dsimp only at hSw); go_simp; try (with_reducible rfl))
  simp only [Act.put, List.setIfInBounds_toArray, List.set_cons_zero, List.set_cons_succ]
  refine wpAnyH_take (i := 11) (oi := { dst := some 93, op := Op.binOp BinOp.eql 3 (Operand.tmp 92) (Operand.const (Value.int IntKind.i64 1)) 3, type := 4, pos := "plain.go:28", after := #[{ on := 10, ground := Ground.data }, { on := 6, ground := Ground.guard }], guard := some (6, true) }) (v := ?va11) rfl (by kernel_rfl) (by kernel_rfl) (by kernel_rfl) (fun _ _ _ h => h) (Or.inl ⟨by rfl, ?ha11⟩) (by assumption) ?ra11
  case ha11 => (intro w0 hSw; (try dsimp only at hSw); go_simp; try (with_reducible rfl))
  simp only [Act.put, List.setIfInBounds_toArray, List.set_cons_zero, List.set_cons_succ]
  refine wpAnyH_take (i := 12) (oi := { dst := some 94, op := Op.pick (Operand.tmp 88) (Operand.tmp 93) (Operand.const (Value.bool false)), type := 4, pos := "plain.go:28", after := #[{ on := 6, ground := Ground.data }, { on := 11, ground := Ground.data }], guard := none }) (v := ?va12) rfl (by kernel_rfl) (by kernel_rfl) (by kernel_rfl) (fun _ _ _ h => h) (Or.inl ⟨by rfl, ?ha12⟩) (by assumption) ?ra12
  case ha12 => (intro w0 hSw; (try dsimp only at hSw); go_simp; try (with_reducible rfl))
  simp only [Act.put, List.setIfInBounds_toArray, List.set_cons_zero, List.set_cons_succ]
  refine wpAnyH_take (i := 13) (oi := { dst := some 95, op := Op.move (Operand.tmp 94), type := 4, pos := "plain.go:28", after := #[{ on := 12, ground := Ground.data }, { on := 6, ground := Ground.chain }], guard := none }) (v := ?va13) rfl (by kernel_rfl) (by kernel_rfl) (by kernel_rfl) (fun _ _ _ h => h) (Or.inl ⟨by rfl, ?ha13⟩) (by assumption) ?ra13
  case ha13 => (intro w0 hSw; (try dsimp only at hSw); go_simp; try (with_reducible rfl))
  simp only [Act.put, List.setIfInBounds_toArray, List.set_cons_zero, List.set_cons_succ]
  refine wpAnyH_take (i := 14) (oi := { dst := some 96, op := Op.move (Operand.tmp 10), type := 32, pos := "plain.go:28", after := #[{ on := 13, ground := Ground.guard }], guard := some (13, true) }) (v := ?va14) rfl (by kernel_rfl) (by kernel_rfl) (by kernel_rfl) (fun _ _ _ h => h) (Or.inl ⟨by rfl, ?ha14⟩) (by assumption) ?ra14
  case ha14 => (intro w0 hSw; (try dsimp only at hSw); go_simp; try (with_reducible rfl))
  simp only [Act.put, List.setIfInBounds_toArray, List.set_cons_zero, List.set_cons_succ]
  refine wpAnyH_take (i := 15) (oi := { dst := some 97, op := Op.indexAddr 32 (Operand.tmp 96) (Operand.const (Value.int IntKind.i64 0)), type := 0, pos := "plain.go:28", after := #[{ on := 14, ground := Ground.data }, { on := 13, ground := Ground.guard }], guard := some (13, true) }) (v := ?va15) rfl (by kernel_rfl) (by kernel_rfl) (by kernel_rfl) (fun _ _ _ h => h) (Or.inl ⟨by rfl, ?ha15⟩) (by assumption) ?ra15
  case ha15 => (intro w0 hSw; (try dsimp only at hSw); go_simp; try (with_reducible rfl))
  simp only [Act.put, List.setIfInBounds_toArray, List.set_cons_zero, List.set_cons_succ]
  refine wpAnyH_take (i := 16) (oi := { dst := some 98, op := Op.fieldAddr 36 (Operand.tmp 97) 2, type := 0, pos := "plain.go:28", after := #[{ on := 15, ground := Ground.data }, { on := 13, ground := Ground.guard }], guard := some (13, true) }) (v := ?va16) rfl (by kernel_rfl) (by kernel_rfl) (by kernel_rfl) (fun _ _ _ h => h) (Or.inl ⟨by rfl, ?ha16⟩) (by assumption) ?ra16
  case ha16 => (intro w0 hSw; (try dsimp only at hSw); go_simp; try (with_reducible rfl))
  simp only [Act.put, List.setIfInBounds_toArray, List.set_cons_zero, List.set_cons_succ]
  refine wpAnyH_take (i := 17) (oi := { dst := some 99, op := Op.load 9 (Operand.tmp 98), type := 9, pos := "plain.go:28", after := #[{ on := 16, ground := Ground.data }, { on := 13, ground := Ground.guard }], guard := some (13, true) }) (v := ?va17) rfl (by kernel_rfl) (by kernel_rfl) (by kernel_rfl) (fun _ _ _ h => h) (Or.inl ⟨by rfl, ?ha17⟩) (by assumption) ?ra17
  case ha17 => (intro w0 hSw; (try dsimp only at hSw); go_simp; try (with_reducible rfl))
  simp only [Act.put, List.setIfInBounds_toArray, List.set_cons_zero, List.set_cons_succ]
  refine wpAnyH_ready (rs := [18]) (by kernel_rfl) (by simp) ?_
  refine AllReadyH.cons rfl (fun K hK => ?_) AllReadyH.nil
  go_simp
  go_wp2_with (go_at_call 31; (first | refine (HC1.out _).mono ?_ | refine (HC7.out _).mono ?_); rintro e' wq ⟨rfl, hb'⟩; have hB := chain HB.out hb' (Nat.le_refl _); clear HB; have HB := Hid.mk hB)
  refine hK.out _ _ ?_ (fun hHeld => ?_)
  · exact keep4 hB ⟨z0, z1, z2, z3⟩
  clear hK K
  refine wpAnyH_take (i := 19) (oi := { dst := some 101, op := Op.binOp BinOp.eql 9 (Operand.tmp 99) (Operand.tmp 100) 9, type := 4, pos := "plain.go:28", after := #[{ on := 17, ground := Ground.data }, { on := 18, ground := Ground.data }, { on := 13, ground := Ground.guard }], guard := some (13, true) }) (v := ?va19) rfl (by kernel_rfl) (by kernel_rfl) (by kernel_rfl) (fun _ _ _ h => h) (Or.inl ⟨by rfl, ?ha19⟩) (by assumption) ?ra19
  case ha19 => (intro w0 hSw; (try dsimp only at hSw); go_simp; try (with_reducible rfl))
  simp only [Act.put, List.setIfInBounds_toArray, List.set_cons_zero, List.set_cons_succ]
  refine wpAnyH_take (i := 20) (oi := { dst := some 102, op := Op.pick (Operand.tmp 95) (Operand.tmp 101) (Operand.const (Value.bool false)), type := 4, pos := "plain.go:28", after := #[{ on := 13, ground := Ground.data }, { on := 19, ground := Ground.data }], guard := none }) (v := ?va20) rfl (by kernel_rfl) (by kernel_rfl) (by kernel_rfl) (fun _ _ _ h => h) (Or.inl ⟨by rfl, ?ha20⟩) (by assumption) ?ra20
  case ha20 => (intro w0 hSw; (try dsimp only at hSw); go_simp; try (with_reducible rfl))
  simp only [Act.put, List.setIfInBounds_toArray, List.set_cons_zero, List.set_cons_succ]
  refine wpAnyH_take (i := 21) (oi := { dst := some 103, op := Op.move (Operand.tmp 102), type := 4, pos := "plain.go:28", after := #[{ on := 20, ground := Ground.data }, { on := 18, ground := Ground.chain }], guard := none }) (v := ?va21) rfl (by kernel_rfl) (by kernel_rfl) (by kernel_rfl) (fun _ _ _ h => h) (Or.inl ⟨by rfl, ?ha21⟩) (by assumption) ?ra21
  case ha21 => (intro w0 hSw; (try dsimp only at hSw); go_simp; try (with_reducible rfl))
  simp only [Act.put, List.setIfInBounds_toArray, List.set_cons_zero, List.set_cons_succ]
  refine wpAnyH_take (i := 22) (oi := { dst := some 104, op := Op.move (Operand.tmp 10), type := 32, pos := "plain.go:28", after := #[{ on := 21, ground := Ground.guard }], guard := some (21, true) }) (v := ?va22) rfl (by kernel_rfl) (by kernel_rfl) (by kernel_rfl) (fun _ _ _ h => h) (Or.inl ⟨by rfl, ?ha22⟩) (by assumption) ?ra22
  case ha22 => (intro w0 hSw; (try dsimp only at hSw); go_simp; try (with_reducible rfl))
  simp only [Act.put, List.setIfInBounds_toArray, List.set_cons_zero, List.set_cons_succ]
  refine wpAnyH_take (i := 23) (oi := { dst := some 105, op := Op.indexAddr 32 (Operand.tmp 104) (Operand.const (Value.int IntKind.i64 1)), type := 0, pos := "plain.go:28", after := #[{ on := 22, ground := Ground.data }, { on := 21, ground := Ground.guard }], guard := some (21, true) }) (v := ?va23) rfl (by kernel_rfl) (by kernel_rfl) (by kernel_rfl) (fun _ _ _ h => h) (Or.inl ⟨by rfl, ?ha23⟩) (by assumption) ?ra23
  case ha23 => (intro w0 hSw; (try dsimp only at hSw); go_simp; try (with_reducible rfl))
  simp only [Act.put, List.setIfInBounds_toArray, List.set_cons_zero, List.set_cons_succ]
  refine wpAnyH_take (i := 24) (oi := { dst := some 106, op := Op.fieldAddr 36 (Operand.tmp 105) 2, type := 0, pos := "plain.go:28", after := #[{ on := 23, ground := Ground.data }, { on := 21, ground := Ground.guard }], guard := some (21, true) }) (v := ?va24) rfl (by kernel_rfl) (by kernel_rfl) (by kernel_rfl) (fun _ _ _ h => h) (Or.inl ⟨by rfl, ?ha24⟩) (by assumption) ?ra24
  case ha24 => (intro w0 hSw; (try dsimp only at hSw); go_simp; try (with_reducible rfl))
  simp only [Act.put, List.setIfInBounds_toArray, List.set_cons_zero, List.set_cons_succ]
  refine wpAnyH_take (i := 25) (oi := { dst := some 107, op := Op.load 9 (Operand.tmp 106), type := 9, pos := "plain.go:28", after := #[{ on := 24, ground := Ground.data }, { on := 21, ground := Ground.guard }], guard := some (21, true) }) (v := ?va25) rfl (by kernel_rfl) (by kernel_rfl) (by kernel_rfl) (fun _ _ _ h => h) (Or.inl ⟨by rfl, ?ha25⟩) (by assumption) ?ra25
  case ha25 => (intro w0 hSw; (try dsimp only at hSw); go_simp; try (with_reducible rfl))
  simp only [Act.put, List.setIfInBounds_toArray, List.set_cons_zero, List.set_cons_succ]
  refine wpAnyH_ready (rs := [26]) (by kernel_rfl) (by simp) ?_
  refine AllReadyH.cons rfl (fun K hK => ?_) AllReadyH.nil
  go_simp
  go_wp2_with (go_at_call 31; (first | refine (HC1.out _).mono ?_ | refine (HC7.out _).mono ?_); rintro e' wq ⟨rfl, hb'⟩; have hB := chain HB.out hb' (Nat.le_refl _); clear HB; have HB := Hid.mk hB)
  refine hK.out _ _ ?_ (fun hHeld => ?_)
  · exact keep4 hB ⟨z0, z1, z2, z3⟩
  clear hK K
  refine wpAnyH_take (i := 27) (oi := { dst := some 109, op := Op.binOp BinOp.eql 9 (Operand.tmp 107) (Operand.tmp 108) 9, type := 4, pos := "plain.go:28", after := #[{ on := 25, ground := Ground.data }, { on := 26, ground := Ground.data }, { on := 21, ground := Ground.guard }], guard := some (21, true) }) (v := ?va27) rfl (by kernel_rfl) (by kernel_rfl) (by kernel_rfl) (fun _ _ _ h => h) (Or.inl ⟨by rfl, ?ha27⟩) (by assumption) ?ra27
  case ha27 => (intro w0 hSw; (try dsimp only at hSw); go_simp; try (with_reducible rfl))
  simp only [Act.put, List.setIfInBounds_toArray, List.set_cons_zero, List.set_cons_succ]
  refine wpAnyH_take (i := 28) (oi := { dst := some 110, op := Op.pick (Operand.tmp 103) (Operand.tmp 109) (Operand.const (Value.bool false)), type := 4, pos := "plain.go:28", after := #[{ on := 21, ground := Ground.data }, { on := 27, ground := Ground.data }], guard := none }) (v := ?va28) rfl (by kernel_rfl) (by kernel_rfl) (by kernel_rfl) (fun _ _ _ h => h) (Or.inl ⟨by rfl, ?ha28⟩) (by assumption) ?ra28
  case ha28 => (intro w0 hSw; (try dsimp only at hSw); go_simp; try (with_reducible rfl))
  simp only [Act.put, List.setIfInBounds_toArray, List.set_cons_zero, List.set_cons_succ]
  refine wpAnyH_take (i := 29) (oi := { dst := some 0, op := Op.assign (Operand.tmp 110), type := 4, pos := "plain.go:28", after := #[{ on := 28, ground := Ground.data }, { on := 26, ground := Ground.chain }, { on := 0, ground := Ground.phase }, { on := 1, ground := Ground.phase }, { on := 2, ground := Ground.phase }, { on := 3, ground := Ground.phase }, { on := 4, ground := Ground.phase }, { on := 5, ground := Ground.phase }, { on := 6, ground := Ground.phase }, { on := 7, ground := Ground.phase }, { on := 8, ground := Ground.phase }, { on := 9, ground := Ground.phase }, { on := 10, ground := Ground.phase }, { on := 11, ground := Ground.phase }, { on := 12, ground := Ground.phase }, { on := 13, ground := Ground.phase }, { on := 14, ground := Ground.phase }, { on := 15, ground := Ground.phase }, { on := 16, ground := Ground.phase }, { on := 17, ground := Ground.phase }, { on := 18, ground := Ground.phase }, { on := 19, ground := Ground.phase }, { on := 20, ground := Ground.phase }, { on := 21, ground := Ground.phase }, { on := 22, ground := Ground.phase }, { on := 23, ground := Ground.phase }, { on := 24, ground := Ground.phase }, { on := 25, ground := Ground.phase }, { on := 26, ground := Ground.phase }, { on := 27, ground := Ground.phase }, { on := 28, ground := Ground.phase }], guard := none }) (v := ?va29) rfl (by kernel_rfl) (by kernel_rfl) (by kernel_rfl) (fun _ _ _ h => h) (Or.inl ⟨by rfl, ?ha29⟩) (by assumption) ?ra29
  case ha29 => (intro w0 hSw; (try dsimp only at hSw); go_simp; try (with_reducible rfl))
  simp only [Act.put, List.setIfInBounds_toArray, List.set_cons_zero, List.set_cons_succ]
  refine wpAnyH_done (by kernel_rfl) ?_ _
  go_wp2_with fail
  go_ret
  exact ⟨rfl, chain HE.out HB.out (Nat.le_refl _)⟩
end Go.Proofs.YtnnbcdfpbdmgdaaDoor
