/-
  DERIVED. The laws' own dealt.
-/
import Derived.Test.YtchikfabfhjkgaaMDealt0
set_option linter.unusedVariables false
set_option linter.unusedSimpArgs false
namespace Go.Proofs.Ytchikfabfhjkgaa
open Go.RowKit
def lenL : Value → Nat
  | .slice _ n _ => n
  | _ => 0
def mD (lv kv : Value) : Value → Nat
  | .bool true => 0
  | _ => lenL lv + 2 - (intOf kv).toNat
/-- What dealt answers. -/
def DealtO (all : List En) (w : World) (r : Ending) (w' : World) : Prop := Below w.heap.size w w' ∧ ∃ R v, RI all all.length R ∧ R.length ≤ all.length ∧ r = .returned v ∧ DL w.heap.size w' v R
/-- A round's state: the lists, where to go on. -/
structure DS (w : World) (all : List En) (i : Nat) (lv kv dv : Value) (W : World) : Prop where
  ex : ∃ (R : List (List En)) (k : Nat) (d : Bool), DL w.heap.size W lv R ∧ dv = .bool d ∧ Below w.heap.size w W ∧ ((d = false ∧ RI all i R ∧ R.length ≤ i ∧ kv = .int .i64 k ∧ k ≤ R.length) ∨ (d = true ∧ RI all (i + 1) R ∧ R.length ≤ i + 1))
set_option maxHeartbeats 4000000 in
set_option maxRecDepth 100000 in
theorem dealt_any (all : List En) (la : Option Addr) (lc : Nat) (ts : List Int) (ta : Option Addr) (tc : Nat) (w : World) (h : LAt w la all) (hl : all.length ≤ 60) (ht : IAt w ta ts) (htl : ts.length < 4611686018427387904) :
    Calls Try.prog 23 #[.slice la all.length lc, .slice ta ts.length tc] w (DealtO all w) := by
  obtain ⟨n, hn⟩ : ∃ n, n = all.length := ⟨_, rfl⟩
  obtain ⟨m, hm⟩ : ∃ m, m = ts.length := ⟨_, rfl⟩
  have HA := Hid.mk (And.intro h (And.intro hl hn))
  have HT := Hid.mk (And.intro ht (And.intro htl hm))
  rw [← hn] at hl ⊢
  rw [← hm] at htl ⊢
  clear h hn ht hm
  go_enter Try.func23, Try.ntmps23
  go_wp2
  go_loopw [5, 6] (fun lv iv wr => ∃ (i : Nat) (R : List (List En)), iv = .int .i64 i ∧ i ≤ n ∧ (RI all i R ∧ R.length ≤ i) ∧ DL w.heap.size wr lv R ∧ Below w.heap.size w wr) (fun _ iv _ => n - (intOf iv).toNat)
  case atStart => exact ⟨0, [], rfl, Nat.zero_le _, ⟨⟨fun r h => by simp at h, by simp, Nat.zero_le _⟩, Nat.le_refl _⟩, DL.nil _ _, Below.refl _ _⟩
  case round =>
    obtain ⟨i, R, rfl, hi, hI, hD, hb⟩ := hrel
    obtain ⟨w1, rfl⟩ : ∃ w1, w1 = wr := ⟨_, rfl⟩
    obtain ⟨va, vc, hv, hvc⟩ := hD.form
    subst hv
    by_cases hlt : i < n
    · have i1 : (i : Int) < (n : Int) := by omega
      have i0 : 0 ≤ (i : Int) := by omega
      have hln : i < all.length := by have := HA.out.2.2; omega
      obtain ⟨x, hx⟩ : ∃ x, all[i]? = some x := ⟨_, List.getElem?_eq_getElem hln⟩
      have hw3 : IntKind.i64.wrap ((i : Int) + 1) = (i : Int) + 1 := by rw [IntKind.wrap_i64]; omega
      have HX := Hid.mk (And.intro hx (And.intro hI (And.intro hD hb)))
      have hrl : R.length ≤ 60 := by have := hI.2; omega
      clear hx hI hD hb hi hvc
      obtain ⟨rl, hrr⟩ : ∃ rl, rl = R.length := ⟨_, rfl⟩
      rw [← hrr] at hrl ⊢
      have HR := Hid.mk hrr
      clear hrr
      have hw5 : IntKind.i64.wrap ((rl : Int) + 1) = (rl : Int) + 1 := by rw [IntKind.wrap_i64]; omega
      obtain ⟨g, off, hla, hra⟩ := (HA.out.1.below HX.out.2.2.2).at' (fun h => by rw [h] at hln; simp at hln)
      subst hla
      clear hra
      have prep : (∃ (q : Int) (gt ot k : Nat), (i : Int) < (m : Int) ∧ (0 : Int) < (rl : Int) ∧ ta = some ⟨gt, ot, none⟩ ∧ w1.cell? ⟨gt, ot + i, none⟩ = some (.int .i64 q) ∧ k ≤ rl ∧ q.tmod ((rl : Int) + 1) = (k : Int)) ∨
          (∃ (q : Int) (gt ot k : Nat), (i : Int) < (m : Int) ∧ (0 : Int) < (rl : Int) ∧ ta = some ⟨gt, ot, none⟩ ∧ w1.cell? ⟨gt, ot + i, none⟩ = some (.int .i64 q) ∧ k ≤ rl ∧ 0 < k ∧ q.tmod ((rl : Int) + 1) = -(k : Int)) ∨
          ((i : Int) < (m : Int) ∧ rl = 0) ∨ ((m : Int) ≤ (i : Int)) := by
        by_cases hit : i < m
        · by_cases hr0 : 0 < rl
          · obtain ⟨q, hq⟩ : ∃ q, ts[i]? = some q := ⟨_, List.getElem?_eq_getElem (by have := HT.out.2.2; omega)⟩
            obtain ⟨gt, ot, hta, hct⟩ := (HT.out.1.below HX.out.2.2.2) i q hq
            have hb1 := Int.tmod_lt_of_pos q (show (0 : Int) < (rl : Int) + 1 by omega)
            have hb2 := Int.lt_tmod_of_pos q (show (0 : Int) < (rl : Int) + 1 by omega)
            by_cases hs : 0 ≤ q.tmod ((rl : Int) + 1)
            · exact .inl ⟨q, gt, ot, (q.tmod ((rl : Int) + 1)).toNat, by omega, by omega, hta, hct, by omega, by omega⟩
            · exact .inr (.inl ⟨q, gt, ot, (-q.tmod ((rl : Int) + 1)).toNat, by omega, by omega, hta, hct, by omega, by omega, by omega⟩)
          · exact .inr (.inr (.inl ⟨by omega, by omega⟩))
        · exact .inr (.inr (.inr (by omega)))
      have ST := Hid.mk (fun (k : Nat) (hk : k ≤ rl) => (⟨⟨R, k, false, HX.out.2.2.1, rfl, HX.out.2.2.2, .inl ⟨rfl, HX.out.2.1.1, HX.out.2.1.2, rfl, by have := HR.out; omega⟩⟩⟩ : DS w all i (.slice va R.length vc) (.int .i64 k) (.bool false) w1))
      rw [← HR.out] at ST
      rcases prep with ⟨q, gt, ot, k0, t1, r0, rfl, hct, hk0, htm⟩ | ⟨q, gt, ot, k0, t1, r0, rfl, hct, hk0, hk1, htm⟩ | ⟨t1, r0⟩ | t1
      · have hge : ¬ ((k0 : Int) < 0) := by omega
        have S0 := Hid.mk (ST.out k0 hk0)
        clear ST
        go_wp2
        clear hct htm hk0 r0 t1 hge
        go_loopw [5, 7, 8] (fun lv kv dv w2 => DS w all i lv kv dv w2) (fun lv kv dv _ => mD lv kv dv)
        case atStart => exact S0.out
        case round =>
          obtain ⟨R2, k, d, hD, rfl, hb2, alt⟩ := hrel.ex
          obtain ⟨w2, rfl⟩ : ∃ w2, w2 = wr := ⟨_, rfl⟩
          obtain ⟨va2, vc2, hv, hvc⟩ := hD.form
          subst hv
          clear hrel S0
          rcases alt with ⟨rfl, hI, hlen, rfl, hk⟩ | ⟨rfl, hI, hlen⟩
          · obtain ⟨g', off', hge, hra⟩ := (HA.out.1.below hb2).at' (fun h => by rw [h] at hln; simp at hln)
            cases hge
            obtain ⟨x0, x1, x2, x3, x4⟩ := row_en hra rfl i hln
            have hxe : all[i] = x := (List.getElem?_eq_some_iff.1 HX.out.1).2
            rw [hxe] at x0 x1 x2 x3 x4
            clear hra hxe
            obtain ⟨rl2, hrr⟩ : ∃ rl, rl = R2.length := ⟨_, rfl⟩
            have HR2 := Hid.mk hrr
            have hrl2 : rl2 ≤ 60 := by omega
            have hk60 : k ≤ 60 := by omega
            have k0' : 0 ≤ (k : Int) := by omega
            have hwk : IntKind.i64.wrap ((k : Int) + 1) = (k : Int) + 1 := by rw [IntKind.wrap_i64]; omega
            by_cases hkl : k < R2.length
            · obtain ⟨r, hr⟩ : ∃ r, R2[k]? = some r := ⟨_, List.getElem?_eq_getElem hkl⟩
              obtain ⟨g2, la2, lc2, rfl, hc2, hf2, hcap2, hL2⟩ := hD.at' hr
              have hrs := hI.short r (List.mem_of_getElem? hr)
              have hput := fun W b => put_any r la2 lc2 x W (hL2.below b) hcap2 (by omega)
              have k1 : (k : Int) < (rl2 : Int) := by omega
              have k2 : ¬ ((rl2 : Int) ≤ (k : Int)) := by omega
              simp only [enC] at hput
              have FN := Hid.mk (And.intro hI (And.intro hlen (And.intro hD (And.intro hb2 (And.intro hr (And.intro hk hkl))))))
              rw [← hrr]
              clear hI hlen hD hb2 hr hvc hk hkl hrr hrs hcap2 hL2 hf2
              go_wp2
              refine wp_region_held_drew (S := (fun w' => Below w2.heap.size w2 w' ∧ w'.cell? ⟨g2, k, none⟩ = some (.slice la2 r.length lc2) ∧ w'.cell? ⟨g, off + i * 5, none⟩ = some (.int .i64 x.v) ∧ w'.cell? ⟨g, off + i * 5 + 1, none⟩ = some (.string x.c) ∧ w'.cell? ⟨g, off + i * 5 + 2, none⟩ = some (.int .i64 x.i) ∧ w'.cell? ⟨g, off + i * 5 + 3, none⟩ = some (.int .i64 x.s) ∧ w'.cell? ⟨g, off + i * 5 + 4, none⟩ = some (.bool x.d))) (by kernel_rfl) ?_ (fun hHeld => ?_)
              · (refine (fun hb => ⟨hb, cell_lat hb hc2, cell_lat hb x0, cell_lat hb x1, cell_lat hb x2, cell_lat hb x3, cell_lat hb x4⟩) ?_; first | exact bb | exact b_drew w2)
              refine wpAnyH_take (i := 0) (oi := { dst := some 51, op := Op.move (Operand.tmp 5), type := 59, pos := "plain.go:72", after := #[], guard := none }) (v := ?va10) rfl (by kernel_rfl) (by kernel_rfl) (by kernel_rfl) (fun _ _ _ h => h) (Or.inl ⟨by rfl, ?ha10⟩) (by assumption) ?ra10
              case ha10 => (intro w0 hSw; (try dsimp only at hSw); go_simp; try (with_reducible rfl))
              simp only [Act.put, List.setIfInBounds_toArray, List.set_cons_zero, List.set_cons_succ]
              refine wpAnyH_take (i := 1) (oi := { dst := some 52, op := Op.move (Operand.tmp 7), type := 3, pos := "plain.go:72", after := #[], guard := none }) (v := ?va11) rfl (by kernel_rfl) (by kernel_rfl) (by kernel_rfl) (fun _ _ _ h => h) (Or.inl ⟨by rfl, ?ha11⟩) (by assumption) ?ra11
              case ha11 => (intro w0 hSw; (try dsimp only at hSw); go_simp; try (with_reducible rfl))
              simp only [Act.put, List.setIfInBounds_toArray, List.set_cons_zero, List.set_cons_succ]
              refine wpAnyH_take (i := 2) (oi := { dst := some 53, op := Op.indexAddr 59 (Operand.tmp 51) (Operand.tmp 52), type := 0, pos := "plain.go:72", after := #[{ on := 0, ground := Ground.data }, { on := 1, ground := Ground.data }], guard := none }) (v := ?va12) rfl (by kernel_rfl) (by kernel_rfl) (by kernel_rfl) (fun _ _ _ h => h) (Or.inl ⟨by rfl, ?ha12⟩) (by assumption) ?ra12
              case ha12 => (intro w0 hSw; (try dsimp only at hSw); go_simp; try (with_reducible rfl))
              simp only [Act.put, List.setIfInBounds_toArray, List.set_cons_zero, List.set_cons_succ]
              refine wpAnyH_take (i := 3) (oi := { dst := some 54, op := Op.load 24 (Operand.tmp 53), type := 24, pos := "plain.go:72", after := #[{ on := 2, ground := Ground.data }], guard := none }) (v := ?va13) rfl (by kernel_rfl) (by kernel_rfl) (by kernel_rfl) (fun _ _ _ h => h) (Or.inl ⟨by rfl, ?ha13⟩) (by assumption) ?ra13
              case ha13 => (intro w0 hSw; (try dsimp only at hSw); go_simp; try (with_reducible rfl))
              simp only [Act.put, List.setIfInBounds_toArray, List.set_cons_zero, List.set_cons_succ]
              refine wpAnyH_take (i := 4) (oi := { dst := some 55, op := Op.move (Operand.tmp 0), type := 24, pos := "plain.go:72", after := #[], guard := none }) (v := ?va14) rfl (by kernel_rfl) (by kernel_rfl) (by kernel_rfl) (fun _ _ _ h => h) (Or.inl ⟨by rfl, ?ha14⟩) (by assumption) ?ra14
              case ha14 => (intro w0 hSw; (try dsimp only at hSw); go_simp; try (with_reducible rfl))
              simp only [Act.put, List.setIfInBounds_toArray, List.set_cons_zero, List.set_cons_succ]
              refine wpAnyH_take (i := 5) (oi := { dst := some 56, op := Op.move (Operand.tmp 6), type := 3, pos := "plain.go:72", after := #[], guard := none }) (v := ?va15) rfl (by kernel_rfl) (by kernel_rfl) (by kernel_rfl) (fun _ _ _ h => h) (Or.inl ⟨by rfl, ?ha15⟩) (by assumption) ?ra15
              case ha15 => (intro w0 hSw; (try dsimp only at hSw); go_simp; try (with_reducible rfl))
              simp only [Act.put, List.setIfInBounds_toArray, List.set_cons_zero, List.set_cons_succ]
              refine wpAnyH_take (i := 6) (oi := { dst := some 57, op := Op.indexAddr 24 (Operand.tmp 55) (Operand.tmp 56), type := 0, pos := "plain.go:72", after := #[{ on := 4, ground := Ground.data }, { on := 5, ground := Ground.data }], guard := none }) (v := ?va16) rfl (by kernel_rfl) (by kernel_rfl) (by kernel_rfl) (fun _ _ _ h => h) (Or.inl ⟨by rfl, ?ha16⟩) (by assumption) ?ra16
              case ha16 => (intro w0 hSw; (try dsimp only at hSw); go_simp; try (with_reducible rfl))
              simp only [Act.put, List.setIfInBounds_toArray, List.set_cons_zero, List.set_cons_succ]
              refine wpAnyH_take (i := 7) (oi := { dst := some 58, op := Op.load 23 (Operand.tmp 57), type := 23, pos := "plain.go:72", after := #[{ on := 6, ground := Ground.data }], guard := none }) (v := ?va17) rfl (by kernel_rfl) (by kernel_rfl) (by kernel_rfl) (fun _ _ _ h => h) (Or.inl ⟨by rfl, ?ha17⟩) (by assumption) ?ra17
              case ha17 => (intro w0 hSw; (try dsimp only at hSw); go_simp; try (with_reducible rfl))
              simp only [Act.put, List.setIfInBounds_toArray, List.set_cons_zero, List.set_cons_succ]
              refine wpAnyH_ready (rs := [8]) (by kernel_rfl) (by simp) ?_
              refine AllReadyH.cons rfl (fun K hK => ?_) AllReadyH.nil
              go_simp
              go_wp2_with (go_at_call 45; refine (hput _ (b_drew w2)).mono ?_; rintro rr w4 hP; obtain ⟨pa, pn, pc, pb, rfl, b4, alt⟩ := hP.form; have bb : Below w2.heap.size w2 w4 := below_d b4; have HP := Hid.mk alt; clear alt hP)
              refine hK.out _ _ ?_ (fun hHeld => ?_)
              · (refine (fun hb => ⟨hb, cell_lat hb hc2, cell_lat hb x0, cell_lat hb x1, cell_lat hb x2, cell_lat hb x3, cell_lat hb x4⟩) ?_; first | exact bb | exact b_drew w2)
              clear hK K
              refine wpAnyH_take (i := 9) (oi := { dst := some 50, op := Op.move (Operand.tmp 59), type := 88, pos := "plain.go:72", after := #[{ on := 8, ground := Ground.data }], guard := none }) (v := ?va19) rfl (by kernel_rfl) (by kernel_rfl) (by kernel_rfl) (fun _ _ _ h => h) (Or.inl ⟨by rfl, ?ha19⟩) (by assumption) ?ra19
              case ha19 => (intro w0 hSw; (try dsimp only at hSw); go_simp; try (with_reducible rfl))
              simp only [Act.put, List.setIfInBounds_toArray, List.set_cons_zero, List.set_cons_succ]
              refine wpAnyH_take (i := 10) (oi := { dst := some 60, op := Op.extract (Operand.tmp 50) 0, type := 24, pos := "plain.go:72", after := #[{ on := 9, ground := Ground.data }], guard := none }) (v := ?va110) rfl (by kernel_rfl) (by kernel_rfl) (by kernel_rfl) (fun _ _ _ h => h) (Or.inl ⟨by rfl, ?ha110⟩) (by assumption) ?ra110
              case ha110 => (intro w0 hSw; (try dsimp only at hSw); go_simp; try (with_reducible rfl))
              simp only [Act.put, List.setIfInBounds_toArray, List.set_cons_zero, List.set_cons_succ]
              refine wpAnyH_take (i := 11) (oi := { dst := some 61, op := Op.extract (Operand.tmp 50) 1, type := 4, pos := "plain.go:72", after := #[{ on := 9, ground := Ground.data }, { on := 12, ground := Ground.gcOnly Departure.lateStores }], guard := none }) (v := ?va111) rfl (by kernel_rfl) (by kernel_rfl) (by kernel_rfl) (fun _ _ _ h => h) (Or.inl ⟨by rfl, ?ha111⟩) (by assumption) ?ra111
              case ha111 => (intro w0 hSw; (try dsimp only at hSw); go_simp; try (with_reducible rfl))
              simp only [Act.put, List.setIfInBounds_toArray, List.set_cons_zero, List.set_cons_succ]
              refine wpAnyH_take (i := 12) (oi := { dst := some 9, op := Op.assign (Operand.tmp 60), type := 24, pos := "plain.go:72", after := #[{ on := 10, ground := Ground.data }, { on := 8, ground := Ground.chain }, { on := 0, ground := Ground.phase }, { on := 1, ground := Ground.phase }, { on := 2, ground := Ground.phase }, { on := 3, ground := Ground.phase }, { on := 4, ground := Ground.phase }, { on := 5, ground := Ground.phase }, { on := 6, ground := Ground.phase }, { on := 7, ground := Ground.phase }, { on := 8, ground := Ground.phase }, { on := 9, ground := Ground.phase }, { on := 10, ground := Ground.phase }, { on := 11, ground := Ground.textOnly Departure.lateStores }], guard := none }) (v := ?va112) rfl (by kernel_rfl) (by kernel_rfl) (by kernel_rfl) (fun _ _ _ h => h) (Or.inl ⟨by rfl, ?ha112⟩) (by assumption) ?ra112
              case ha112 => (intro w0 hSw; (try dsimp only at hSw); go_simp; try (with_reducible rfl))
              simp only [Act.put, List.setIfInBounds_toArray, List.set_cons_zero, List.set_cons_succ]
              refine wpAnyH_take (i := 13) (oi := { dst := some 10, op := Op.assign (Operand.tmp 61), type := 4, pos := "plain.go:72", after := #[{ on := 11, ground := Ground.data }, { on := 12, ground := Ground.chain }, { on := 0, ground := Ground.phase }, { on := 1, ground := Ground.phase }, { on := 2, ground := Ground.phase }, { on := 3, ground := Ground.phase }, { on := 4, ground := Ground.phase }, { on := 5, ground := Ground.phase }, { on := 6, ground := Ground.phase }, { on := 7, ground := Ground.phase }, { on := 8, ground := Ground.phase }, { on := 9, ground := Ground.phase }, { on := 10, ground := Ground.phase }, { on := 11, ground := Ground.phase }, { on := 12, ground := Ground.phase }], guard := none }) (v := ?va113) rfl (by kernel_rfl) (by kernel_rfl) (by kernel_rfl) (fun _ _ _ h => h) (Or.inl ⟨by rfl, ?ha113⟩) (by assumption) ?ra113
              case ha113 => (intro w0 hSw; (try dsimp only at hSw); go_simp; try (with_reducible rfl))
              simp only [Act.put, List.setIfInBounds_toArray, List.set_cons_zero, List.set_cons_succ]
              refine wpAnyH_done (by kernel_rfl) ?_ _
              rename_i hH
              clear x0 x1 x2 x3 x4 hc2 hput
              have D4 := Hid.mk (FN.out.2.2.1.lat bb)
              have B4 := Hid.mk (chain FN.out.2.2.2.1 bb (Nat.le_refl _))
              obtain ⟨g4, la4, lc4, e4, hc4, hf4, -, -⟩ := D4.out.at' FN.out.2.2.2.2.1
              cases e4
              clear bb b4 hH
              cases pb
              · clear hc4 hf4
                go_wp2
                first | refine ⟨⟨R2, k + 1, false, by rw [HR2.out]; exact D4.out, rfl, B4.out, .inl ⟨rfl, FN.out.1, FN.out.2.1, ival (by omega), FN.out.2.2.2.2.2.2⟩⟩, ?_⟩ | refine ⟨⟨_, _, _, DS.mk ⟨R2, k + 1, false, by rw [HR2.out]; exact D4.out, rfl, B4.out, .inl ⟨rfl, FN.out.1, FN.out.2.1, ival (by omega), FN.out.2.2.2.2.2.2⟩⟩, rfl, rfl, rfl⟩, ?_⟩
                show rl2 + 2 - ((k : Int) + 1).toNat < rl2 + 2 - (k : Int).toNat
                omega
              · obtain ⟨kk, pk, hnz, ho4⟩ : ∃ k2, PutK r x k2 ∧ (∀ h : k2 < r.length, cpE r[k2] x ≠ 0) ∧ w4.ownsRow 0 23 5 (.slice pa pn pc) (insP r x k2).length ((insP r x k2).flatMap enC) := by
                  rcases HP.out with ⟨h, -⟩ | ⟨-, h⟩
                  · cases h
                  · exact h
                have S4 := Hid.mk (D4.out.set FN.out.2.2.2.2.2.2 ho4)
                have R4 := Hid.mk (FN.out.1.set HX.out.1 FN.out.2.2.2.2.1 pk hnz)
                clear pk hnz ho4
                go_wp2
                first | refine ⟨⟨R2.set k (insP r x kk), k + 1, true, by rw [HR2.out]; simpa using S4.out.1, rfl, B4.out.trans S4.out.2, .inr ⟨rfl, R4.out, by rw [List.length_set]; have := FN.out.2.1; omega⟩⟩, ?_⟩ | refine ⟨⟨_, _, _, DS.mk ⟨R2.set k (insP r x kk), k + 1, true, by rw [HR2.out]; simpa using S4.out.1, rfl, B4.out.trans S4.out.2, .inr ⟨rfl, R4.out, by rw [List.length_set]; have := FN.out.2.1; omega⟩⟩, rfl, rfl, rfl⟩, ?_⟩
                show 0 < rl2 + 2 - (k : Int).toNat
                omega
            · have hkk : k = R2.length := by omega
              obtain ⟨a3, c3, w3, hap, hD3, hb3⟩ := hD.push hb2.size (by omega) (t := .slice none 0 0) (r := []) (nil_own _) rfl
              have hI3 := hI.push hlen
              have hr : (R2 ++ [[]])[k]? = some [] := by rw [hkk]; simp
              have hlen3 : R2.length + 1 = (R2 ++ [[]]).length := by simp
              rw [hlen3] at hD3
              obtain ⟨g2, la2, lc2, rfl, hc2, hf2, hcap2, hL2⟩ := hD3.at' hr
              rw [← hlen3] at hD3
              have hb23 := hb2.trans hb3
              obtain ⟨g', off', hge, hra⟩ := (HA.out.1.below hb23).at' (fun h => by rw [h] at hln; simp at hln)
              cases hge
              clear x0 x1 x2 x3 x4
              obtain ⟨x0, x1, x2, x3, x4⟩ := row_en hra rfl i hln
              have hxe : all[i] = x := (List.getElem?_eq_some_iff.1 HX.out.1).2
              rw [hxe] at x0 x1 x2 x3 x4
              have hput := fun W b => put_any [] la2 lc2 x W (hL2.below b) hcap2 (by simp)
              have k2 : (rl2 : Int) ≤ (k : Int) := by omega
              simp only [enC] at hput
              have FN := Hid.mk (And.intro hI3 (And.intro hlen (And.intro hD3 (And.intro hb23 (And.intro hr hkk)))))
              have hwm : IntKind.i64.wrap (((rl2 + 1 : Nat) : Int) - 1) = (k : Int) := by rw [IntKind.wrap_i64]; omega
              have hwm2 : IntKind.i64.wrap ((rl2 : Int) + 1 - 1) = (k : Int) := by rw [IntKind.wrap_i64]; omega
              have hwm3 : IntKind.i64.wrap (rl2 : Int) = (k : Int) := by rw [IntKind.wrap_i64]; omega
              have k1 : (k : Int) < (rl2 : Int) + 1 := by omega
              have k1' : k < rl2 + 1 := by omega
              rw [← hrr] at hap ⊢
              clear hI hlen hD hb2 hb3 hb23 hr hvc hk hkl hrr hcap2 hL2 hf2 hI3 hD3 hra hxe hlen3 hkk
              simp only [List.length_nil] at hc2 hput
              go_wp2_with (at_builtin; refine wpList_append_eq rfl _ _ _ _ rfl _ _ _ _ rfl rfl hap ?_; clear hap)
              refine wp_region_held_drew (S := (fun w' => Below w3.heap.size w3 w' ∧ w'.cell? ⟨g2, k, none⟩ = some (.slice la2 0 lc2) ∧ w'.cell? ⟨g, off + i * 5, none⟩ = some (.int .i64 x.v) ∧ w'.cell? ⟨g, off + i * 5 + 1, none⟩ = some (.string x.c) ∧ w'.cell? ⟨g, off + i * 5 + 2, none⟩ = some (.int .i64 x.i) ∧ w'.cell? ⟨g, off + i * 5 + 3, none⟩ = some (.int .i64 x.s) ∧ w'.cell? ⟨g, off + i * 5 + 4, none⟩ = some (.bool x.d))) (by kernel_rfl) ?_ (fun hHeld => ?_)
              · (refine (fun hb => ⟨hb, cell_lat hb hc2, cell_lat hb x0, cell_lat hb x1, cell_lat hb x2, cell_lat hb x3, cell_lat hb x4⟩) ?_; first | exact bb | exact b_drew w3)
              refine wpAnyH_take (i := 0) (oi := { dst := some 51, op := Op.move (Operand.tmp 5), type := 59, pos := "plain.go:72", after := #[], guard := none }) (v := ?vb10) rfl (by kernel_rfl) (by kernel_rfl) (by kernel_rfl) (fun _ _ _ h => h) (Or.inl ⟨by rfl, ?hb10⟩) (by assumption) ?rb10
              case hb10 => (intro w0 hSw; (try dsimp only at hSw); go_simp; try (with_reducible rfl))
              simp only [Act.put, List.setIfInBounds_toArray, List.set_cons_zero, List.set_cons_succ]
              refine wpAnyH_take (i := 1) (oi := { dst := some 52, op := Op.move (Operand.tmp 7), type := 3, pos := "plain.go:72", after := #[], guard := none }) (v := ?vb11) rfl (by kernel_rfl) (by kernel_rfl) (by kernel_rfl) (fun _ _ _ h => h) (Or.inl ⟨by rfl, ?hb11⟩) (by assumption) ?rb11
              case hb11 => (intro w0 hSw; (try dsimp only at hSw); go_simp; try (with_reducible rfl))
              simp only [Act.put, List.setIfInBounds_toArray, List.set_cons_zero, List.set_cons_succ]
              refine wpAnyH_take (i := 2) (oi := { dst := some 53, op := Op.indexAddr 59 (Operand.tmp 51) (Operand.tmp 52), type := 0, pos := "plain.go:72", after := #[{ on := 0, ground := Ground.data }, { on := 1, ground := Ground.data }], guard := none }) (v := ?vb12) rfl (by kernel_rfl) (by kernel_rfl) (by kernel_rfl) (fun _ _ _ h => h) (Or.inl ⟨by rfl, ?hb12⟩) (by assumption) ?rb12
              case hb12 => (intro w0 hSw; (try dsimp only at hSw); go_simp; try (with_reducible rfl))
              simp only [Act.put, List.setIfInBounds_toArray, List.set_cons_zero, List.set_cons_succ]
              refine wpAnyH_take (i := 3) (oi := { dst := some 54, op := Op.load 24 (Operand.tmp 53), type := 24, pos := "plain.go:72", after := #[{ on := 2, ground := Ground.data }], guard := none }) (v := ?vb13) rfl (by kernel_rfl) (by kernel_rfl) (by kernel_rfl) (fun _ _ _ h => h) (Or.inl ⟨by rfl, ?hb13⟩) (by assumption) ?rb13
              case hb13 => (intro w0 hSw; (try dsimp only at hSw); go_simp; try (with_reducible rfl))
              simp only [Act.put, List.setIfInBounds_toArray, List.set_cons_zero, List.set_cons_succ]
              refine wpAnyH_take (i := 4) (oi := { dst := some 55, op := Op.move (Operand.tmp 0), type := 24, pos := "plain.go:72", after := #[], guard := none }) (v := ?vb14) rfl (by kernel_rfl) (by kernel_rfl) (by kernel_rfl) (fun _ _ _ h => h) (Or.inl ⟨by rfl, ?hb14⟩) (by assumption) ?rb14
              case hb14 => (intro w0 hSw; (try dsimp only at hSw); go_simp; try (with_reducible rfl))
              simp only [Act.put, List.setIfInBounds_toArray, List.set_cons_zero, List.set_cons_succ]
              refine wpAnyH_take (i := 5) (oi := { dst := some 56, op := Op.move (Operand.tmp 6), type := 3, pos := "plain.go:72", after := #[], guard := none }) (v := ?vb15) rfl (by kernel_rfl) (by kernel_rfl) (by kernel_rfl) (fun _ _ _ h => h) (Or.inl ⟨by rfl, ?hb15⟩) (by assumption) ?rb15
              case hb15 => (intro w0 hSw; (try dsimp only at hSw); go_simp; try (with_reducible rfl))
              simp only [Act.put, List.setIfInBounds_toArray, List.set_cons_zero, List.set_cons_succ]
              refine wpAnyH_take (i := 6) (oi := { dst := some 57, op := Op.indexAddr 24 (Operand.tmp 55) (Operand.tmp 56), type := 0, pos := "plain.go:72", after := #[{ on := 4, ground := Ground.data }, { on := 5, ground := Ground.data }], guard := none }) (v := ?vb16) rfl (by kernel_rfl) (by kernel_rfl) (by kernel_rfl) (fun _ _ _ h => h) (Or.inl ⟨by rfl, ?hb16⟩) (by assumption) ?rb16
              case hb16 => (intro w0 hSw; (try dsimp only at hSw); go_simp; try (with_reducible rfl))
              simp only [Act.put, List.setIfInBounds_toArray, List.set_cons_zero, List.set_cons_succ]
              refine wpAnyH_take (i := 7) (oi := { dst := some 58, op := Op.load 23 (Operand.tmp 57), type := 23, pos := "plain.go:72", after := #[{ on := 6, ground := Ground.data }], guard := none }) (v := ?vb17) rfl (by kernel_rfl) (by kernel_rfl) (by kernel_rfl) (fun _ _ _ h => h) (Or.inl ⟨by rfl, ?hb17⟩) (by assumption) ?rb17
              case hb17 => (intro w0 hSw; (try dsimp only at hSw); go_simp; try (with_reducible rfl))
              simp only [Act.put, List.setIfInBounds_toArray, List.set_cons_zero, List.set_cons_succ]
              refine wpAnyH_ready (rs := [8]) (by kernel_rfl) (by simp) ?_
              refine AllReadyH.cons rfl (fun K hK => ?_) AllReadyH.nil
              go_simp
              go_wp2_with (go_at_call 45; refine (hput _ (b_drew w3)).mono ?_; rintro rr w4 hP; obtain ⟨pa, pn, pc, pb, rfl, b4, alt⟩ := hP.form; have bb : Below w3.heap.size w3 w4 := below_d b4; have HP := Hid.mk alt; clear alt hP)
              refine hK.out _ _ ?_ (fun hHeld => ?_)
              · (refine (fun hb => ⟨hb, cell_lat hb hc2, cell_lat hb x0, cell_lat hb x1, cell_lat hb x2, cell_lat hb x3, cell_lat hb x4⟩) ?_; first | exact bb | exact b_drew w3)
              clear hK K
              refine wpAnyH_take (i := 9) (oi := { dst := some 50, op := Op.move (Operand.tmp 59), type := 88, pos := "plain.go:72", after := #[{ on := 8, ground := Ground.data }], guard := none }) (v := ?vb19) rfl (by kernel_rfl) (by kernel_rfl) (by kernel_rfl) (fun _ _ _ h => h) (Or.inl ⟨by rfl, ?hb19⟩) (by assumption) ?rb19
              case hb19 => (intro w0 hSw; (try dsimp only at hSw); go_simp; try (with_reducible rfl))
              simp only [Act.put, List.setIfInBounds_toArray, List.set_cons_zero, List.set_cons_succ]
              refine wpAnyH_take (i := 10) (oi := { dst := some 60, op := Op.extract (Operand.tmp 50) 0, type := 24, pos := "plain.go:72", after := #[{ on := 9, ground := Ground.data }], guard := none }) (v := ?vb110) rfl (by kernel_rfl) (by kernel_rfl) (by kernel_rfl) (fun _ _ _ h => h) (Or.inl ⟨by rfl, ?hb110⟩) (by assumption) ?rb110
              case hb110 => (intro w0 hSw; (try dsimp only at hSw); go_simp; try (with_reducible rfl))
              simp only [Act.put, List.setIfInBounds_toArray, List.set_cons_zero, List.set_cons_succ]
              refine wpAnyH_take (i := 11) (oi := { dst := some 61, op := Op.extract (Operand.tmp 50) 1, type := 4, pos := "plain.go:72", after := #[{ on := 9, ground := Ground.data }, { on := 12, ground := Ground.gcOnly Departure.lateStores }], guard := none }) (v := ?vb111) rfl (by kernel_rfl) (by kernel_rfl) (by kernel_rfl) (fun _ _ _ h => h) (Or.inl ⟨by rfl, ?hb111⟩) (by assumption) ?rb111
              case hb111 => (intro w0 hSw; (try dsimp only at hSw); go_simp; try (with_reducible rfl))
              simp only [Act.put, List.setIfInBounds_toArray, List.set_cons_zero, List.set_cons_succ]
              refine wpAnyH_take (i := 12) (oi := { dst := some 9, op := Op.assign (Operand.tmp 60), type := 24, pos := "plain.go:72", after := #[{ on := 10, ground := Ground.data }, { on := 8, ground := Ground.chain }, { on := 0, ground := Ground.phase }, { on := 1, ground := Ground.phase }, { on := 2, ground := Ground.phase }, { on := 3, ground := Ground.phase }, { on := 4, ground := Ground.phase }, { on := 5, ground := Ground.phase }, { on := 6, ground := Ground.phase }, { on := 7, ground := Ground.phase }, { on := 8, ground := Ground.phase }, { on := 9, ground := Ground.phase }, { on := 10, ground := Ground.phase }, { on := 11, ground := Ground.textOnly Departure.lateStores }], guard := none }) (v := ?vb112) rfl (by kernel_rfl) (by kernel_rfl) (by kernel_rfl) (fun _ _ _ h => h) (Or.inl ⟨by rfl, ?hb112⟩) (by assumption) ?rb112
              case hb112 => (intro w0 hSw; (try dsimp only at hSw); go_simp; try (with_reducible rfl))
              simp only [Act.put, List.setIfInBounds_toArray, List.set_cons_zero, List.set_cons_succ]
              refine wpAnyH_take (i := 13) (oi := { dst := some 10, op := Op.assign (Operand.tmp 61), type := 4, pos := "plain.go:72", after := #[{ on := 11, ground := Ground.data }, { on := 12, ground := Ground.chain }, { on := 0, ground := Ground.phase }, { on := 1, ground := Ground.phase }, { on := 2, ground := Ground.phase }, { on := 3, ground := Ground.phase }, { on := 4, ground := Ground.phase }, { on := 5, ground := Ground.phase }, { on := 6, ground := Ground.phase }, { on := 7, ground := Ground.phase }, { on := 8, ground := Ground.phase }, { on := 9, ground := Ground.phase }, { on := 10, ground := Ground.phase }, { on := 11, ground := Ground.phase }, { on := 12, ground := Ground.phase }], guard := none }) (v := ?vb113) rfl (by kernel_rfl) (by kernel_rfl) (by kernel_rfl) (fun _ _ _ h => h) (Or.inl ⟨by rfl, ?hb113⟩) (by assumption) ?rb113
              case hb113 => (intro w0 hSw; (try dsimp only at hSw); go_simp; try (with_reducible rfl))
              simp only [Act.put, List.setIfInBounds_toArray, List.set_cons_zero, List.set_cons_succ]
              refine wpAnyH_done (by kernel_rfl) ?_ _
              rename_i hH
              clear x0 x1 x2 x3 x4 hc2 hput hH
              have hlen3 : R2.length + 1 = (R2 ++ [[]]).length := by simp
              have D4 := Hid.mk (by have h := FN.out.2.2.1.lat bb; rw [hlen3] at h; exact h)
              have B4 := Hid.mk (chain FN.out.2.2.2.1 bb (Nat.le_refl _))
              obtain ⟨g4, la4, lc4, e4, hc4, hf4, -, -⟩ := D4.out.at' FN.out.2.2.2.2.1
              cases e4
              simp only [List.length_nil] at hc4
              clear bb b4 hlen3
              cases pb
              · rcases HP.out with ⟨-, h⟩ | ⟨h, -⟩
                · exact absurd rfl h
                · cases h
              · obtain ⟨kk, pk, hnz, ho4⟩ : ∃ k2, PutK [] x k2 ∧ (∀ h : k2 < ([] : List En).length, cpE ([] : List En)[k2] x ≠ 0) ∧ w4.ownsRow 0 23 5 (.slice pa pn pc) (insP [] x k2).length ((insP [] x k2).flatMap enC) := by
                  rcases HP.out with ⟨h, -⟩ | ⟨-, h⟩
                  · cases h
                  · exact h
                have S4 := Hid.mk (D4.out.set (k := k) (by simp; have := FN.out.2.2.2.2.2; omega) ho4)
                have R4 := Hid.mk (FN.out.1.set HX.out.1 FN.out.2.2.2.2.1 pk hnz)
                clear pk hnz ho4
                go_wp2
                first | refine ⟨⟨(R2 ++ [[]]).set k (insP [] x kk), k + 1, true, by have h := S4.out.1; have hz : (R2 ++ [([] : List En)] : List (List En)).length = rl2 + 1 := (by simp [HR2.out]); rw [hz] at h; exact h, rfl, B4.out.trans S4.out.2, .inr ⟨rfl, R4.out, by rw [List.length_set]; simp; have := FN.out.2.1; omega⟩⟩, ?_⟩ | refine ⟨⟨_, _, _, DS.mk ⟨(R2 ++ [[]]).set k (insP [] x kk), k + 1, true, by have h := S4.out.1; have hz : (R2 ++ [([] : List En)] : List (List En)).length = rl2 + 1 := (by simp [HR2.out]); rw [hz] at h; exact h, rfl, B4.out.trans S4.out.2, .inr ⟨rfl, R4.out, by rw [List.length_set]; simp; have := FN.out.2.1; omega⟩⟩, rfl, rfl, rfl⟩, ?_⟩
                show 0 < rl2 + 2 - (k : Int).toNat
                omega
          · have FN := Hid.mk (And.intro hI (And.intro hlen (And.intro hD hb2)))
            clear hI hlen hD hb2 hvc
            go_wp2
            exact ⟨⟨i + 1, R2, ival (by omega), hlt, ⟨FN.out.1, FN.out.2.1⟩, FN.out.2.2.1, FN.out.2.2.2⟩, by simp only [intOf]; omega⟩
      · have S0 := Hid.mk (ST.out k0 hk0)
        clear ST
        obtain ⟨z, hz⟩ : ∃ z : Int, z = -(k0 : Int) := ⟨_, rfl⟩
        rw [← hz] at htm
        have hge : z < 0 := by omega
        have hneg : IntKind.i64.wrap (- z) = (k0 : Int) := by rw [IntKind.wrap_i64]; omega
        clear hz hk1
        go_wp2
        clear hct htm hk0 r0 t1 hge hneg
        go_loopw [5, 7, 8] (fun lv kv dv w2 => DS w all i lv kv dv w2) (fun lv kv dv _ => mD lv kv dv)
        case atStart => exact S0.out
        case round =>
          obtain ⟨R2, k, d, hD, rfl, hb2, alt⟩ := hrel.ex
          obtain ⟨w2, rfl⟩ : ∃ w2, w2 = wr := ⟨_, rfl⟩
          obtain ⟨va2, vc2, hv, hvc⟩ := hD.form
          subst hv
          clear hrel S0
          rcases alt with ⟨rfl, hI, hlen, rfl, hk⟩ | ⟨rfl, hI, hlen⟩
          · obtain ⟨g', off', hge, hra⟩ := (HA.out.1.below hb2).at' (fun h => by rw [h] at hln; simp at hln)
            cases hge
            obtain ⟨x0, x1, x2, x3, x4⟩ := row_en hra rfl i hln
            have hxe : all[i] = x := (List.getElem?_eq_some_iff.1 HX.out.1).2
            rw [hxe] at x0 x1 x2 x3 x4
            clear hra hxe
            obtain ⟨rl2, hrr⟩ : ∃ rl, rl = R2.length := ⟨_, rfl⟩
            have HR2 := Hid.mk hrr
            have hrl2 : rl2 ≤ 60 := by omega
            have hk60 : k ≤ 60 := by omega
            have k0' : 0 ≤ (k : Int) := by omega
            have hwk : IntKind.i64.wrap ((k : Int) + 1) = (k : Int) + 1 := by rw [IntKind.wrap_i64]; omega
            by_cases hkl : k < R2.length
            · obtain ⟨r, hr⟩ : ∃ r, R2[k]? = some r := ⟨_, List.getElem?_eq_getElem hkl⟩
              obtain ⟨g2, la2, lc2, rfl, hc2, hf2, hcap2, hL2⟩ := hD.at' hr
              have hrs := hI.short r (List.mem_of_getElem? hr)
              have hput := fun W b => put_any r la2 lc2 x W (hL2.below b) hcap2 (by omega)
              have k1 : (k : Int) < (rl2 : Int) := by omega
              have k2 : ¬ ((rl2 : Int) ≤ (k : Int)) := by omega
              simp only [enC] at hput
              have FN := Hid.mk (And.intro hI (And.intro hlen (And.intro hD (And.intro hb2 (And.intro hr (And.intro hk hkl))))))
              rw [← hrr]
              clear hI hlen hD hb2 hr hvc hk hkl hrr hrs hcap2 hL2 hf2
              go_wp2
              refine wp_region_held_drew (S := (fun w' => Below w2.heap.size w2 w' ∧ w'.cell? ⟨g2, k, none⟩ = some (.slice la2 r.length lc2) ∧ w'.cell? ⟨g, off + i * 5, none⟩ = some (.int .i64 x.v) ∧ w'.cell? ⟨g, off + i * 5 + 1, none⟩ = some (.string x.c) ∧ w'.cell? ⟨g, off + i * 5 + 2, none⟩ = some (.int .i64 x.i) ∧ w'.cell? ⟨g, off + i * 5 + 3, none⟩ = some (.int .i64 x.s) ∧ w'.cell? ⟨g, off + i * 5 + 4, none⟩ = some (.bool x.d))) (by kernel_rfl) ?_ (fun hHeld => ?_)
              · (refine (fun hb => ⟨hb, cell_lat hb hc2, cell_lat hb x0, cell_lat hb x1, cell_lat hb x2, cell_lat hb x3, cell_lat hb x4⟩) ?_; first | exact bb | exact b_drew w2)
              refine wpAnyH_take (i := 0) (oi := { dst := some 51, op := Op.move (Operand.tmp 5), type := 59, pos := "plain.go:72", after := #[], guard := none }) (v := ?va20) rfl (by kernel_rfl) (by kernel_rfl) (by kernel_rfl) (fun _ _ _ h => h) (Or.inl ⟨by rfl, ?ha20⟩) (by assumption) ?ra20
              case ha20 => (intro w0 hSw; (try dsimp only at hSw); go_simp; try (with_reducible rfl))
              simp only [Act.put, List.setIfInBounds_toArray, List.set_cons_zero, List.set_cons_succ]
              refine wpAnyH_take (i := 1) (oi := { dst := some 52, op := Op.move (Operand.tmp 7), type := 3, pos := "plain.go:72", after := #[], guard := none }) (v := ?va21) rfl (by kernel_rfl) (by kernel_rfl) (by kernel_rfl) (fun _ _ _ h => h) (Or.inl ⟨by rfl, ?ha21⟩) (by assumption) ?ra21
              case ha21 => (intro w0 hSw; (try dsimp only at hSw); go_simp; try (with_reducible rfl))
              simp only [Act.put, List.setIfInBounds_toArray, List.set_cons_zero, List.set_cons_succ]
              refine wpAnyH_take (i := 2) (oi := { dst := some 53, op := Op.indexAddr 59 (Operand.tmp 51) (Operand.tmp 52), type := 0, pos := "plain.go:72", after := #[{ on := 0, ground := Ground.data }, { on := 1, ground := Ground.data }], guard := none }) (v := ?va22) rfl (by kernel_rfl) (by kernel_rfl) (by kernel_rfl) (fun _ _ _ h => h) (Or.inl ⟨by rfl, ?ha22⟩) (by assumption) ?ra22
              case ha22 => (intro w0 hSw; (try dsimp only at hSw); go_simp; try (with_reducible rfl))
              simp only [Act.put, List.setIfInBounds_toArray, List.set_cons_zero, List.set_cons_succ]
              refine wpAnyH_take (i := 3) (oi := { dst := some 54, op := Op.load 24 (Operand.tmp 53), type := 24, pos := "plain.go:72", after := #[{ on := 2, ground := Ground.data }], guard := none }) (v := ?va23) rfl (by kernel_rfl) (by kernel_rfl) (by kernel_rfl) (fun _ _ _ h => h) (Or.inl ⟨by rfl, ?ha23⟩) (by assumption) ?ra23
              case ha23 => (intro w0 hSw; (try dsimp only at hSw); go_simp; try (with_reducible rfl))
              simp only [Act.put, List.setIfInBounds_toArray, List.set_cons_zero, List.set_cons_succ]
              refine wpAnyH_take (i := 4) (oi := { dst := some 55, op := Op.move (Operand.tmp 0), type := 24, pos := "plain.go:72", after := #[], guard := none }) (v := ?va24) rfl (by kernel_rfl) (by kernel_rfl) (by kernel_rfl) (fun _ _ _ h => h) (Or.inl ⟨by rfl, ?ha24⟩) (by assumption) ?ra24
              case ha24 => (intro w0 hSw; (try dsimp only at hSw); go_simp; try (with_reducible rfl))
              simp only [Act.put, List.setIfInBounds_toArray, List.set_cons_zero, List.set_cons_succ]
              refine wpAnyH_take (i := 5) (oi := { dst := some 56, op := Op.move (Operand.tmp 6), type := 3, pos := "plain.go:72", after := #[], guard := none }) (v := ?va25) rfl (by kernel_rfl) (by kernel_rfl) (by kernel_rfl) (fun _ _ _ h => h) (Or.inl ⟨by rfl, ?ha25⟩) (by assumption) ?ra25
              case ha25 => (intro w0 hSw; (try dsimp only at hSw); go_simp; try (with_reducible rfl))
              simp only [Act.put, List.setIfInBounds_toArray, List.set_cons_zero, List.set_cons_succ]
              refine wpAnyH_take (i := 6) (oi := { dst := some 57, op := Op.indexAddr 24 (Operand.tmp 55) (Operand.tmp 56), type := 0, pos := "plain.go:72", after := #[{ on := 4, ground := Ground.data }, { on := 5, ground := Ground.data }], guard := none }) (v := ?va26) rfl (by kernel_rfl) (by kernel_rfl) (by kernel_rfl) (fun _ _ _ h => h) (Or.inl ⟨by rfl, ?ha26⟩) (by assumption) ?ra26
              case ha26 => (intro w0 hSw; (try dsimp only at hSw); go_simp; try (with_reducible rfl))
              simp only [Act.put, List.setIfInBounds_toArray, List.set_cons_zero, List.set_cons_succ]
              refine wpAnyH_take (i := 7) (oi := { dst := some 58, op := Op.load 23 (Operand.tmp 57), type := 23, pos := "plain.go:72", after := #[{ on := 6, ground := Ground.data }], guard := none }) (v := ?va27) rfl (by kernel_rfl) (by kernel_rfl) (by kernel_rfl) (fun _ _ _ h => h) (Or.inl ⟨by rfl, ?ha27⟩) (by assumption) ?ra27
              case ha27 => (intro w0 hSw; (try dsimp only at hSw); go_simp; try (with_reducible rfl))
              simp only [Act.put, List.setIfInBounds_toArray, List.set_cons_zero, List.set_cons_succ]
              refine wpAnyH_ready (rs := [8]) (by kernel_rfl) (by simp) ?_
              refine AllReadyH.cons rfl (fun K hK => ?_) AllReadyH.nil
              go_simp
              go_wp2_with (go_at_call 45; refine (hput _ (b_drew w2)).mono ?_; rintro rr w4 hP; obtain ⟨pa, pn, pc, pb, rfl, b4, alt⟩ := hP.form; have bb : Below w2.heap.size w2 w4 := below_d b4; have HP := Hid.mk alt; clear alt hP)
              refine hK.out _ _ ?_ (fun hHeld => ?_)
              · (refine (fun hb => ⟨hb, cell_lat hb hc2, cell_lat hb x0, cell_lat hb x1, cell_lat hb x2, cell_lat hb x3, cell_lat hb x4⟩) ?_; first | exact bb | exact b_drew w2)
              clear hK K
              refine wpAnyH_take (i := 9) (oi := { dst := some 50, op := Op.move (Operand.tmp 59), type := 88, pos := "plain.go:72", after := #[{ on := 8, ground := Ground.data }], guard := none }) (v := ?va29) rfl (by kernel_rfl) (by kernel_rfl) (by kernel_rfl) (fun _ _ _ h => h) (Or.inl ⟨by rfl, ?ha29⟩) (by assumption) ?ra29
              case ha29 => (intro w0 hSw; (try dsimp only at hSw); go_simp; try (with_reducible rfl))
              simp only [Act.put, List.setIfInBounds_toArray, List.set_cons_zero, List.set_cons_succ]
              refine wpAnyH_take (i := 10) (oi := { dst := some 60, op := Op.extract (Operand.tmp 50) 0, type := 24, pos := "plain.go:72", after := #[{ on := 9, ground := Ground.data }], guard := none }) (v := ?va210) rfl (by kernel_rfl) (by kernel_rfl) (by kernel_rfl) (fun _ _ _ h => h) (Or.inl ⟨by rfl, ?ha210⟩) (by assumption) ?ra210
              case ha210 => (intro w0 hSw; (try dsimp only at hSw); go_simp; try (with_reducible rfl))
              simp only [Act.put, List.setIfInBounds_toArray, List.set_cons_zero, List.set_cons_succ]
              refine wpAnyH_take (i := 11) (oi := { dst := some 61, op := Op.extract (Operand.tmp 50) 1, type := 4, pos := "plain.go:72", after := #[{ on := 9, ground := Ground.data }, { on := 12, ground := Ground.gcOnly Departure.lateStores }], guard := none }) (v := ?va211) rfl (by kernel_rfl) (by kernel_rfl) (by kernel_rfl) (fun _ _ _ h => h) (Or.inl ⟨by rfl, ?ha211⟩) (by assumption) ?ra211
              case ha211 => (intro w0 hSw; (try dsimp only at hSw); go_simp; try (with_reducible rfl))
              simp only [Act.put, List.setIfInBounds_toArray, List.set_cons_zero, List.set_cons_succ]
              refine wpAnyH_take (i := 12) (oi := { dst := some 9, op := Op.assign (Operand.tmp 60), type := 24, pos := "plain.go:72", after := #[{ on := 10, ground := Ground.data }, { on := 8, ground := Ground.chain }, { on := 0, ground := Ground.phase }, { on := 1, ground := Ground.phase }, { on := 2, ground := Ground.phase }, { on := 3, ground := Ground.phase }, { on := 4, ground := Ground.phase }, { on := 5, ground := Ground.phase }, { on := 6, ground := Ground.phase }, { on := 7, ground := Ground.phase }, { on := 8, ground := Ground.phase }, { on := 9, ground := Ground.phase }, { on := 10, ground := Ground.phase }, { on := 11, ground := Ground.textOnly Departure.lateStores }], guard := none }) (v := ?va212) rfl (by kernel_rfl) (by kernel_rfl) (by kernel_rfl) (fun _ _ _ h => h) (Or.inl ⟨by rfl, ?ha212⟩) (by assumption) ?ra212
              case ha212 => (intro w0 hSw; (try dsimp only at hSw); go_simp; try (with_reducible rfl))
              simp only [Act.put, List.setIfInBounds_toArray, List.set_cons_zero, List.set_cons_succ]
              refine wpAnyH_take (i := 13) (oi := { dst := some 10, op := Op.assign (Operand.tmp 61), type := 4, pos := "plain.go:72", after := #[{ on := 11, ground := Ground.data }, { on := 12, ground := Ground.chain }, { on := 0, ground := Ground.phase }, { on := 1, ground := Ground.phase }, { on := 2, ground := Ground.phase }, { on := 3, ground := Ground.phase }, { on := 4, ground := Ground.phase }, { on := 5, ground := Ground.phase }, { on := 6, ground := Ground.phase }, { on := 7, ground := Ground.phase }, { on := 8, ground := Ground.phase }, { on := 9, ground := Ground.phase }, { on := 10, ground := Ground.phase }, { on := 11, ground := Ground.phase }, { on := 12, ground := Ground.phase }], guard := none }) (v := ?va213) rfl (by kernel_rfl) (by kernel_rfl) (by kernel_rfl) (fun _ _ _ h => h) (Or.inl ⟨by rfl, ?ha213⟩) (by assumption) ?ra213
              case ha213 => (intro w0 hSw; (try dsimp only at hSw); go_simp; try (with_reducible rfl))
              simp only [Act.put, List.setIfInBounds_toArray, List.set_cons_zero, List.set_cons_succ]
              refine wpAnyH_done (by kernel_rfl) ?_ _
              rename_i hH
              clear x0 x1 x2 x3 x4 hc2 hput
              have D4 := Hid.mk (FN.out.2.2.1.lat bb)
              have B4 := Hid.mk (chain FN.out.2.2.2.1 bb (Nat.le_refl _))
              obtain ⟨g4, la4, lc4, e4, hc4, hf4, -, -⟩ := D4.out.at' FN.out.2.2.2.2.1
              cases e4
              clear bb b4 hH
              cases pb
              · clear hc4 hf4
                go_wp2
                first | refine ⟨⟨R2, k + 1, false, by rw [HR2.out]; exact D4.out, rfl, B4.out, .inl ⟨rfl, FN.out.1, FN.out.2.1, ival (by omega), FN.out.2.2.2.2.2.2⟩⟩, ?_⟩ | refine ⟨⟨_, _, _, DS.mk ⟨R2, k + 1, false, by rw [HR2.out]; exact D4.out, rfl, B4.out, .inl ⟨rfl, FN.out.1, FN.out.2.1, ival (by omega), FN.out.2.2.2.2.2.2⟩⟩, rfl, rfl, rfl⟩, ?_⟩
                show rl2 + 2 - ((k : Int) + 1).toNat < rl2 + 2 - (k : Int).toNat
                omega
              · obtain ⟨kk, pk, hnz, ho4⟩ : ∃ k2, PutK r x k2 ∧ (∀ h : k2 < r.length, cpE r[k2] x ≠ 0) ∧ w4.ownsRow 0 23 5 (.slice pa pn pc) (insP r x k2).length ((insP r x k2).flatMap enC) := by
                  rcases HP.out with ⟨h, -⟩ | ⟨-, h⟩
                  · cases h
                  · exact h
                have S4 := Hid.mk (D4.out.set FN.out.2.2.2.2.2.2 ho4)
                have R4 := Hid.mk (FN.out.1.set HX.out.1 FN.out.2.2.2.2.1 pk hnz)
                clear pk hnz ho4
                go_wp2
                first | refine ⟨⟨R2.set k (insP r x kk), k + 1, true, by rw [HR2.out]; simpa using S4.out.1, rfl, B4.out.trans S4.out.2, .inr ⟨rfl, R4.out, by rw [List.length_set]; have := FN.out.2.1; omega⟩⟩, ?_⟩ | refine ⟨⟨_, _, _, DS.mk ⟨R2.set k (insP r x kk), k + 1, true, by rw [HR2.out]; simpa using S4.out.1, rfl, B4.out.trans S4.out.2, .inr ⟨rfl, R4.out, by rw [List.length_set]; have := FN.out.2.1; omega⟩⟩, rfl, rfl, rfl⟩, ?_⟩
                show 0 < rl2 + 2 - (k : Int).toNat
                omega
            · have hkk : k = R2.length := by omega
              obtain ⟨a3, c3, w3, hap, hD3, hb3⟩ := hD.push hb2.size (by omega) (t := .slice none 0 0) (r := []) (nil_own _) rfl
              have hI3 := hI.push hlen
              have hr : (R2 ++ [[]])[k]? = some [] := by rw [hkk]; simp
              have hlen3 : R2.length + 1 = (R2 ++ [[]]).length := by simp
              rw [hlen3] at hD3
              obtain ⟨g2, la2, lc2, rfl, hc2, hf2, hcap2, hL2⟩ := hD3.at' hr
              rw [← hlen3] at hD3
              have hb23 := hb2.trans hb3
              obtain ⟨g', off', hge, hra⟩ := (HA.out.1.below hb23).at' (fun h => by rw [h] at hln; simp at hln)
              cases hge
              clear x0 x1 x2 x3 x4
              obtain ⟨x0, x1, x2, x3, x4⟩ := row_en hra rfl i hln
              have hxe : all[i] = x := (List.getElem?_eq_some_iff.1 HX.out.1).2
              rw [hxe] at x0 x1 x2 x3 x4
              have hput := fun W b => put_any [] la2 lc2 x W (hL2.below b) hcap2 (by simp)
              have k2 : (rl2 : Int) ≤ (k : Int) := by omega
              simp only [enC] at hput
              have FN := Hid.mk (And.intro hI3 (And.intro hlen (And.intro hD3 (And.intro hb23 (And.intro hr hkk)))))
              have hwm : IntKind.i64.wrap (((rl2 + 1 : Nat) : Int) - 1) = (k : Int) := by rw [IntKind.wrap_i64]; omega
              have hwm2 : IntKind.i64.wrap ((rl2 : Int) + 1 - 1) = (k : Int) := by rw [IntKind.wrap_i64]; omega
              have hwm3 : IntKind.i64.wrap (rl2 : Int) = (k : Int) := by rw [IntKind.wrap_i64]; omega
              have k1 : (k : Int) < (rl2 : Int) + 1 := by omega
              have k1' : k < rl2 + 1 := by omega
              rw [← hrr] at hap ⊢
              clear hI hlen hD hb2 hb3 hb23 hr hvc hk hkl hrr hcap2 hL2 hf2 hI3 hD3 hra hxe hlen3 hkk
              simp only [List.length_nil] at hc2 hput
              go_wp2_with (at_builtin; refine wpList_append_eq rfl _ _ _ _ rfl _ _ _ _ rfl rfl hap ?_; clear hap)
              refine wp_region_held_drew (S := (fun w' => Below w3.heap.size w3 w' ∧ w'.cell? ⟨g2, k, none⟩ = some (.slice la2 0 lc2) ∧ w'.cell? ⟨g, off + i * 5, none⟩ = some (.int .i64 x.v) ∧ w'.cell? ⟨g, off + i * 5 + 1, none⟩ = some (.string x.c) ∧ w'.cell? ⟨g, off + i * 5 + 2, none⟩ = some (.int .i64 x.i) ∧ w'.cell? ⟨g, off + i * 5 + 3, none⟩ = some (.int .i64 x.s) ∧ w'.cell? ⟨g, off + i * 5 + 4, none⟩ = some (.bool x.d))) (by kernel_rfl) ?_ (fun hHeld => ?_)
              · (refine (fun hb => ⟨hb, cell_lat hb hc2, cell_lat hb x0, cell_lat hb x1, cell_lat hb x2, cell_lat hb x3, cell_lat hb x4⟩) ?_; first | exact bb | exact b_drew w3)
              refine wpAnyH_take (i := 0) (oi := { dst := some 51, op := Op.move (Operand.tmp 5), type := 59, pos := "plain.go:72", after := #[], guard := none }) (v := ?vb20) rfl (by kernel_rfl) (by kernel_rfl) (by kernel_rfl) (fun _ _ _ h => h) (Or.inl ⟨by rfl, ?hb20⟩) (by assumption) ?rb20
              case hb20 => (intro w0 hSw; (try dsimp only at hSw); go_simp; try (with_reducible rfl))
              simp only [Act.put, List.setIfInBounds_toArray, List.set_cons_zero, List.set_cons_succ]
              refine wpAnyH_take (i := 1) (oi := { dst := some 52, op := Op.move (Operand.tmp 7), type := 3, pos := "plain.go:72", after := #[], guard := none }) (v := ?vb21) rfl (by kernel_rfl) (by kernel_rfl) (by kernel_rfl) (fun _ _ _ h => h) (Or.inl ⟨by rfl, ?hb21⟩) (by assumption) ?rb21
              case hb21 => (intro w0 hSw; (try dsimp only at hSw); go_simp; try (with_reducible rfl))
              simp only [Act.put, List.setIfInBounds_toArray, List.set_cons_zero, List.set_cons_succ]
              refine wpAnyH_take (i := 2) (oi := { dst := some 53, op := Op.indexAddr 59 (Operand.tmp 51) (Operand.tmp 52), type := 0, pos := "plain.go:72", after := #[{ on := 0, ground := Ground.data }, { on := 1, ground := Ground.data }], guard := none }) (v := ?vb22) rfl (by kernel_rfl) (by kernel_rfl) (by kernel_rfl) (fun _ _ _ h => h) (Or.inl ⟨by rfl, ?hb22⟩) (by assumption) ?rb22
              case hb22 => (intro w0 hSw; (try dsimp only at hSw); go_simp; try (with_reducible rfl))
              simp only [Act.put, List.setIfInBounds_toArray, List.set_cons_zero, List.set_cons_succ]
              refine wpAnyH_take (i := 3) (oi := { dst := some 54, op := Op.load 24 (Operand.tmp 53), type := 24, pos := "plain.go:72", after := #[{ on := 2, ground := Ground.data }], guard := none }) (v := ?vb23) rfl (by kernel_rfl) (by kernel_rfl) (by kernel_rfl) (fun _ _ _ h => h) (Or.inl ⟨by rfl, ?hb23⟩) (by assumption) ?rb23
              case hb23 => (intro w0 hSw; (try dsimp only at hSw); go_simp; try (with_reducible rfl))
              simp only [Act.put, List.setIfInBounds_toArray, List.set_cons_zero, List.set_cons_succ]
              refine wpAnyH_take (i := 4) (oi := { dst := some 55, op := Op.move (Operand.tmp 0), type := 24, pos := "plain.go:72", after := #[], guard := none }) (v := ?vb24) rfl (by kernel_rfl) (by kernel_rfl) (by kernel_rfl) (fun _ _ _ h => h) (Or.inl ⟨by rfl, ?hb24⟩) (by assumption) ?rb24
              case hb24 => (intro w0 hSw; (try dsimp only at hSw); go_simp; try (with_reducible rfl))
              simp only [Act.put, List.setIfInBounds_toArray, List.set_cons_zero, List.set_cons_succ]
              refine wpAnyH_take (i := 5) (oi := { dst := some 56, op := Op.move (Operand.tmp 6), type := 3, pos := "plain.go:72", after := #[], guard := none }) (v := ?vb25) rfl (by kernel_rfl) (by kernel_rfl) (by kernel_rfl) (fun _ _ _ h => h) (Or.inl ⟨by rfl, ?hb25⟩) (by assumption) ?rb25
              case hb25 => (intro w0 hSw; (try dsimp only at hSw); go_simp; try (with_reducible rfl))
              simp only [Act.put, List.setIfInBounds_toArray, List.set_cons_zero, List.set_cons_succ]
              refine wpAnyH_take (i := 6) (oi := { dst := some 57, op := Op.indexAddr 24 (Operand.tmp 55) (Operand.tmp 56), type := 0, pos := "plain.go:72", after := #[{ on := 4, ground := Ground.data }, { on := 5, ground := Ground.data }], guard := none }) (v := ?vb26) rfl (by kernel_rfl) (by kernel_rfl) (by kernel_rfl) (fun _ _ _ h => h) (Or.inl ⟨by rfl, ?hb26⟩) (by assumption) ?rb26
              case hb26 => (intro w0 hSw; (try dsimp only at hSw); go_simp; try (with_reducible rfl))
              simp only [Act.put, List.setIfInBounds_toArray, List.set_cons_zero, List.set_cons_succ]
              refine wpAnyH_take (i := 7) (oi := { dst := some 58, op := Op.load 23 (Operand.tmp 57), type := 23, pos := "plain.go:72", after := #[{ on := 6, ground := Ground.data }], guard := none }) (v := ?vb27) rfl (by kernel_rfl) (by kernel_rfl) (by kernel_rfl) (fun _ _ _ h => h) (Or.inl ⟨by rfl, ?hb27⟩) (by assumption) ?rb27
              case hb27 => (intro w0 hSw; (try dsimp only at hSw); go_simp; try (with_reducible rfl))
              simp only [Act.put, List.setIfInBounds_toArray, List.set_cons_zero, List.set_cons_succ]
              refine wpAnyH_ready (rs := [8]) (by kernel_rfl) (by simp) ?_
              refine AllReadyH.cons rfl (fun K hK => ?_) AllReadyH.nil
              go_simp
              go_wp2_with (go_at_call 45; refine (hput _ (b_drew w3)).mono ?_; rintro rr w4 hP; obtain ⟨pa, pn, pc, pb, rfl, b4, alt⟩ := hP.form; have bb : Below w3.heap.size w3 w4 := below_d b4; have HP := Hid.mk alt; clear alt hP)
              refine hK.out _ _ ?_ (fun hHeld => ?_)
              · (refine (fun hb => ⟨hb, cell_lat hb hc2, cell_lat hb x0, cell_lat hb x1, cell_lat hb x2, cell_lat hb x3, cell_lat hb x4⟩) ?_; first | exact bb | exact b_drew w3)
              clear hK K
              refine wpAnyH_take (i := 9) (oi := { dst := some 50, op := Op.move (Operand.tmp 59), type := 88, pos := "plain.go:72", after := #[{ on := 8, ground := Ground.data }], guard := none }) (v := ?vb29) rfl (by kernel_rfl) (by kernel_rfl) (by kernel_rfl) (fun _ _ _ h => h) (Or.inl ⟨by rfl, ?hb29⟩) (by assumption) ?rb29
              case hb29 => (intro w0 hSw; (try dsimp only at hSw); go_simp; try (with_reducible rfl))
              simp only [Act.put, List.setIfInBounds_toArray, List.set_cons_zero, List.set_cons_succ]
              refine wpAnyH_take (i := 10) (oi := { dst := some 60, op := Op.extract (Operand.tmp 50) 0, type := 24, pos := "plain.go:72", after := #[{ on := 9, ground := Ground.data }], guard := none }) (v := ?vb210) rfl (by kernel_rfl) (by kernel_rfl) (by kernel_rfl) (fun _ _ _ h => h) (Or.inl ⟨by rfl, ?hb210⟩) (by assumption) ?rb210
              case hb210 => (intro w0 hSw; (try dsimp only at hSw); go_simp; try (with_reducible rfl))
              simp only [Act.put, List.setIfInBounds_toArray, List.set_cons_zero, List.set_cons_succ]
              refine wpAnyH_take (i := 11) (oi := { dst := some 61, op := Op.extract (Operand.tmp 50) 1, type := 4, pos := "plain.go:72", after := #[{ on := 9, ground := Ground.data }, { on := 12, ground := Ground.gcOnly Departure.lateStores }], guard := none }) (v := ?vb211) rfl (by kernel_rfl) (by kernel_rfl) (by kernel_rfl) (fun _ _ _ h => h) (Or.inl ⟨by rfl, ?hb211⟩) (by assumption) ?rb211
              case hb211 => (intro w0 hSw; (try dsimp only at hSw); go_simp; try (with_reducible rfl))
              simp only [Act.put, List.setIfInBounds_toArray, List.set_cons_zero, List.set_cons_succ]
              refine wpAnyH_take (i := 12) (oi := { dst := some 9, op := Op.assign (Operand.tmp 60), type := 24, pos := "plain.go:72", after := #[{ on := 10, ground := Ground.data }, { on := 8, ground := Ground.chain }, { on := 0, ground := Ground.phase }, { on := 1, ground := Ground.phase }, { on := 2, ground := Ground.phase }, { on := 3, ground := Ground.phase }, { on := 4, ground := Ground.phase }, { on := 5, ground := Ground.phase }, { on := 6, ground := Ground.phase }, { on := 7, ground := Ground.phase }, { on := 8, ground := Ground.phase }, { on := 9, ground := Ground.phase }, { on := 10, ground := Ground.phase }, { on := 11, ground := Ground.textOnly Departure.lateStores }], guard := none }) (v := ?vb212) rfl (by kernel_rfl) (by kernel_rfl) (by kernel_rfl) (fun _ _ _ h => h) (Or.inl ⟨by rfl, ?hb212⟩) (by assumption) ?rb212
              case hb212 => (intro w0 hSw; (try dsimp only at hSw); go_simp; try (with_reducible rfl))
              simp only [Act.put, List.setIfInBounds_toArray, List.set_cons_zero, List.set_cons_succ]
              refine wpAnyH_take (i := 13) (oi := { dst := some 10, op := Op.assign (Operand.tmp 61), type := 4, pos := "plain.go:72", after := #[{ on := 11, ground := Ground.data }, { on := 12, ground := Ground.chain }, { on := 0, ground := Ground.phase }, { on := 1, ground := Ground.phase }, { on := 2, ground := Ground.phase }, { on := 3, ground := Ground.phase }, { on := 4, ground := Ground.phase }, { on := 5, ground := Ground.phase }, { on := 6, ground := Ground.phase }, { on := 7, ground := Ground.phase }, { on := 8, ground := Ground.phase }, { on := 9, ground := Ground.phase }, { on := 10, ground := Ground.phase }, { on := 11, ground := Ground.phase }, { on := 12, ground := Ground.phase }], guard := none }) (v := ?vb213) rfl (by kernel_rfl) (by kernel_rfl) (by kernel_rfl) (fun _ _ _ h => h) (Or.inl ⟨by rfl, ?hb213⟩) (by assumption) ?rb213
              case hb213 => (intro w0 hSw; (try dsimp only at hSw); go_simp; try (with_reducible rfl))
              simp only [Act.put, List.setIfInBounds_toArray, List.set_cons_zero, List.set_cons_succ]
              refine wpAnyH_done (by kernel_rfl) ?_ _
              rename_i hH
              clear x0 x1 x2 x3 x4 hc2 hput hH
              have hlen3 : R2.length + 1 = (R2 ++ [[]]).length := by simp
              have D4 := Hid.mk (by have h := FN.out.2.2.1.lat bb; rw [hlen3] at h; exact h)
              have B4 := Hid.mk (chain FN.out.2.2.2.1 bb (Nat.le_refl _))
              obtain ⟨g4, la4, lc4, e4, hc4, hf4, -, -⟩ := D4.out.at' FN.out.2.2.2.2.1
              cases e4
              simp only [List.length_nil] at hc4
              clear bb b4 hlen3
              cases pb
              · rcases HP.out with ⟨-, h⟩ | ⟨h, -⟩
                · exact absurd rfl h
                · cases h
              · obtain ⟨kk, pk, hnz, ho4⟩ : ∃ k2, PutK [] x k2 ∧ (∀ h : k2 < ([] : List En).length, cpE ([] : List En)[k2] x ≠ 0) ∧ w4.ownsRow 0 23 5 (.slice pa pn pc) (insP [] x k2).length ((insP [] x k2).flatMap enC) := by
                  rcases HP.out with ⟨h, -⟩ | ⟨-, h⟩
                  · cases h
                  · exact h
                have S4 := Hid.mk (D4.out.set (k := k) (by simp; have := FN.out.2.2.2.2.2; omega) ho4)
                have R4 := Hid.mk (FN.out.1.set HX.out.1 FN.out.2.2.2.2.1 pk hnz)
                clear pk hnz ho4
                go_wp2
                first | refine ⟨⟨(R2 ++ [[]]).set k (insP [] x kk), k + 1, true, by have h := S4.out.1; have hz : (R2 ++ [([] : List En)] : List (List En)).length = rl2 + 1 := (by simp [HR2.out]); rw [hz] at h; exact h, rfl, B4.out.trans S4.out.2, .inr ⟨rfl, R4.out, by rw [List.length_set]; simp; have := FN.out.2.1; omega⟩⟩, ?_⟩ | refine ⟨⟨_, _, _, DS.mk ⟨(R2 ++ [[]]).set k (insP [] x kk), k + 1, true, by have h := S4.out.1; have hz : (R2 ++ [([] : List En)] : List (List En)).length = rl2 + 1 := (by simp [HR2.out]); rw [hz] at h; exact h, rfl, B4.out.trans S4.out.2, .inr ⟨rfl, R4.out, by rw [List.length_set]; simp; have := FN.out.2.1; omega⟩⟩, rfl, rfl, rfl⟩, ?_⟩
                show 0 < rl2 + 2 - (k : Int).toNat
                omega
          · have FN := Hid.mk (And.intro hI (And.intro hlen (And.intro hD hb2)))
            clear hI hlen hD hb2 hvc
            go_wp2
            exact ⟨⟨i + 1, R2, ival (by omega), hlt, ⟨FN.out.1, FN.out.2.1⟩, FN.out.2.2.1, FN.out.2.2.2⟩, by simp only [intOf]; omega⟩
      · have S0 := Hid.mk (ST.out 0 (Nat.zero_le _))
        clear ST
        subst r0
        go_wp2
        clear t1
        go_loopw [5, 7, 8] (fun lv kv dv w2 => DS w all i lv kv dv w2) (fun lv kv dv _ => mD lv kv dv)
        case atStart => exact S0.out
        case round =>
          obtain ⟨R2, k, d, hD, rfl, hb2, alt⟩ := hrel.ex
          obtain ⟨w2, rfl⟩ : ∃ w2, w2 = wr := ⟨_, rfl⟩
          obtain ⟨va2, vc2, hv, hvc⟩ := hD.form
          subst hv
          clear hrel S0
          rcases alt with ⟨rfl, hI, hlen, rfl, hk⟩ | ⟨rfl, hI, hlen⟩
          · obtain ⟨g', off', hge, hra⟩ := (HA.out.1.below hb2).at' (fun h => by rw [h] at hln; simp at hln)
            cases hge
            obtain ⟨x0, x1, x2, x3, x4⟩ := row_en hra rfl i hln
            have hxe : all[i] = x := (List.getElem?_eq_some_iff.1 HX.out.1).2
            rw [hxe] at x0 x1 x2 x3 x4
            clear hra hxe
            obtain ⟨rl2, hrr⟩ : ∃ rl, rl = R2.length := ⟨_, rfl⟩
            have HR2 := Hid.mk hrr
            have hrl2 : rl2 ≤ 60 := by omega
            have hk60 : k ≤ 60 := by omega
            have k0' : 0 ≤ (k : Int) := by omega
            have hwk : IntKind.i64.wrap ((k : Int) + 1) = (k : Int) + 1 := by rw [IntKind.wrap_i64]; omega
            by_cases hkl : k < R2.length
            · obtain ⟨r, hr⟩ : ∃ r, R2[k]? = some r := ⟨_, List.getElem?_eq_getElem hkl⟩
              obtain ⟨g2, la2, lc2, rfl, hc2, hf2, hcap2, hL2⟩ := hD.at' hr
              have hrs := hI.short r (List.mem_of_getElem? hr)
              have hput := fun W b => put_any r la2 lc2 x W (hL2.below b) hcap2 (by omega)
              have k1 : (k : Int) < (rl2 : Int) := by omega
              have k2 : ¬ ((rl2 : Int) ≤ (k : Int)) := by omega
              simp only [enC] at hput
              have FN := Hid.mk (And.intro hI (And.intro hlen (And.intro hD (And.intro hb2 (And.intro hr (And.intro hk hkl))))))
              rw [← hrr]
              clear hI hlen hD hb2 hr hvc hk hkl hrr hrs hcap2 hL2 hf2
              go_wp2
              refine wp_region_held_drew (S := (fun w' => Below w2.heap.size w2 w' ∧ w'.cell? ⟨g2, k, none⟩ = some (.slice la2 r.length lc2) ∧ w'.cell? ⟨g, off + i * 5, none⟩ = some (.int .i64 x.v) ∧ w'.cell? ⟨g, off + i * 5 + 1, none⟩ = some (.string x.c) ∧ w'.cell? ⟨g, off + i * 5 + 2, none⟩ = some (.int .i64 x.i) ∧ w'.cell? ⟨g, off + i * 5 + 3, none⟩ = some (.int .i64 x.s) ∧ w'.cell? ⟨g, off + i * 5 + 4, none⟩ = some (.bool x.d))) (by kernel_rfl) ?_ (fun hHeld => ?_)
              · (refine (fun hb => ⟨hb, cell_lat hb hc2, cell_lat hb x0, cell_lat hb x1, cell_lat hb x2, cell_lat hb x3, cell_lat hb x4⟩) ?_; first | exact bb | exact b_drew w2)
              refine wpAnyH_take (i := 0) (oi := { dst := some 51, op := Op.move (Operand.tmp 5), type := 59, pos := "plain.go:72", after := #[], guard := none }) (v := ?va30) rfl (by kernel_rfl) (by kernel_rfl) (by kernel_rfl) (fun _ _ _ h => h) (Or.inl ⟨by rfl, ?ha30⟩) (by assumption) ?ra30
              case ha30 => (intro w0 hSw; (try dsimp only at hSw); go_simp; try (with_reducible rfl))
              simp only [Act.put, List.setIfInBounds_toArray, List.set_cons_zero, List.set_cons_succ]
              refine wpAnyH_take (i := 1) (oi := { dst := some 52, op := Op.move (Operand.tmp 7), type := 3, pos := "plain.go:72", after := #[], guard := none }) (v := ?va31) rfl (by kernel_rfl) (by kernel_rfl) (by kernel_rfl) (fun _ _ _ h => h) (Or.inl ⟨by rfl, ?ha31⟩) (by assumption) ?ra31
              case ha31 => (intro w0 hSw; (try dsimp only at hSw); go_simp; try (with_reducible rfl))
              simp only [Act.put, List.setIfInBounds_toArray, List.set_cons_zero, List.set_cons_succ]
              refine wpAnyH_take (i := 2) (oi := { dst := some 53, op := Op.indexAddr 59 (Operand.tmp 51) (Operand.tmp 52), type := 0, pos := "plain.go:72", after := #[{ on := 0, ground := Ground.data }, { on := 1, ground := Ground.data }], guard := none }) (v := ?va32) rfl (by kernel_rfl) (by kernel_rfl) (by kernel_rfl) (fun _ _ _ h => h) (Or.inl ⟨by rfl, ?ha32⟩) (by assumption) ?ra32
              case ha32 => (intro w0 hSw; (try dsimp only at hSw); go_simp; try (with_reducible rfl))
              simp only [Act.put, List.setIfInBounds_toArray, List.set_cons_zero, List.set_cons_succ]
              refine wpAnyH_take (i := 3) (oi := { dst := some 54, op := Op.load 24 (Operand.tmp 53), type := 24, pos := "plain.go:72", after := #[{ on := 2, ground := Ground.data }], guard := none }) (v := ?va33) rfl (by kernel_rfl) (by kernel_rfl) (by kernel_rfl) (fun _ _ _ h => h) (Or.inl ⟨by rfl, ?ha33⟩) (by assumption) ?ra33
              case ha33 => (intro w0 hSw; (try dsimp only at hSw); go_simp; try (with_reducible rfl))
              simp only [Act.put, List.setIfInBounds_toArray, List.set_cons_zero, List.set_cons_succ]
              refine wpAnyH_take (i := 4) (oi := { dst := some 55, op := Op.move (Operand.tmp 0), type := 24, pos := "plain.go:72", after := #[], guard := none }) (v := ?va34) rfl (by kernel_rfl) (by kernel_rfl) (by kernel_rfl) (fun _ _ _ h => h) (Or.inl ⟨by rfl, ?ha34⟩) (by assumption) ?ra34
              case ha34 => (intro w0 hSw; (try dsimp only at hSw); go_simp; try (with_reducible rfl))
              simp only [Act.put, List.setIfInBounds_toArray, List.set_cons_zero, List.set_cons_succ]
              refine wpAnyH_take (i := 5) (oi := { dst := some 56, op := Op.move (Operand.tmp 6), type := 3, pos := "plain.go:72", after := #[], guard := none }) (v := ?va35) rfl (by kernel_rfl) (by kernel_rfl) (by kernel_rfl) (fun _ _ _ h => h) (Or.inl ⟨by rfl, ?ha35⟩) (by assumption) ?ra35
              case ha35 => (intro w0 hSw; (try dsimp only at hSw); go_simp; try (with_reducible rfl))
              simp only [Act.put, List.setIfInBounds_toArray, List.set_cons_zero, List.set_cons_succ]
              refine wpAnyH_take (i := 6) (oi := { dst := some 57, op := Op.indexAddr 24 (Operand.tmp 55) (Operand.tmp 56), type := 0, pos := "plain.go:72", after := #[{ on := 4, ground := Ground.data }, { on := 5, ground := Ground.data }], guard := none }) (v := ?va36) rfl (by kernel_rfl) (by kernel_rfl) (by kernel_rfl) (fun _ _ _ h => h) (Or.inl ⟨by rfl, ?ha36⟩) (by assumption) ?ra36
              case ha36 => (intro w0 hSw; (try dsimp only at hSw); go_simp; try (with_reducible rfl))
              simp only [Act.put, List.setIfInBounds_toArray, List.set_cons_zero, List.set_cons_succ]
              refine wpAnyH_take (i := 7) (oi := { dst := some 58, op := Op.load 23 (Operand.tmp 57), type := 23, pos := "plain.go:72", after := #[{ on := 6, ground := Ground.data }], guard := none }) (v := ?va37) rfl (by kernel_rfl) (by kernel_rfl) (by kernel_rfl) (fun _ _ _ h => h) (Or.inl ⟨by rfl, ?ha37⟩) (by assumption) ?ra37
              case ha37 => (intro w0 hSw; (try dsimp only at hSw); go_simp; try (with_reducible rfl))
              simp only [Act.put, List.setIfInBounds_toArray, List.set_cons_zero, List.set_cons_succ]
              refine wpAnyH_ready (rs := [8]) (by kernel_rfl) (by simp) ?_
              refine AllReadyH.cons rfl (fun K hK => ?_) AllReadyH.nil
              go_simp
              go_wp2_with (go_at_call 45; refine (hput _ (b_drew w2)).mono ?_; rintro rr w4 hP; obtain ⟨pa, pn, pc, pb, rfl, b4, alt⟩ := hP.form; have bb : Below w2.heap.size w2 w4 := below_d b4; have HP := Hid.mk alt; clear alt hP)
              refine hK.out _ _ ?_ (fun hHeld => ?_)
              · (refine (fun hb => ⟨hb, cell_lat hb hc2, cell_lat hb x0, cell_lat hb x1, cell_lat hb x2, cell_lat hb x3, cell_lat hb x4⟩) ?_; first | exact bb | exact b_drew w2)
              clear hK K
              refine wpAnyH_take (i := 9) (oi := { dst := some 50, op := Op.move (Operand.tmp 59), type := 88, pos := "plain.go:72", after := #[{ on := 8, ground := Ground.data }], guard := none }) (v := ?va39) rfl (by kernel_rfl) (by kernel_rfl) (by kernel_rfl) (fun _ _ _ h => h) (Or.inl ⟨by rfl, ?ha39⟩) (by assumption) ?ra39
              case ha39 => (intro w0 hSw; (try dsimp only at hSw); go_simp; try (with_reducible rfl))
              simp only [Act.put, List.setIfInBounds_toArray, List.set_cons_zero, List.set_cons_succ]
              refine wpAnyH_take (i := 10) (oi := { dst := some 60, op := Op.extract (Operand.tmp 50) 0, type := 24, pos := "plain.go:72", after := #[{ on := 9, ground := Ground.data }], guard := none }) (v := ?va310) rfl (by kernel_rfl) (by kernel_rfl) (by kernel_rfl) (fun _ _ _ h => h) (Or.inl ⟨by rfl, ?ha310⟩) (by assumption) ?ra310
              case ha310 => (intro w0 hSw; (try dsimp only at hSw); go_simp; try (with_reducible rfl))
              simp only [Act.put, List.setIfInBounds_toArray, List.set_cons_zero, List.set_cons_succ]
              refine wpAnyH_take (i := 11) (oi := { dst := some 61, op := Op.extract (Operand.tmp 50) 1, type := 4, pos := "plain.go:72", after := #[{ on := 9, ground := Ground.data }, { on := 12, ground := Ground.gcOnly Departure.lateStores }], guard := none }) (v := ?va311) rfl (by kernel_rfl) (by kernel_rfl) (by kernel_rfl) (fun _ _ _ h => h) (Or.inl ⟨by rfl, ?ha311⟩) (by assumption) ?ra311
              case ha311 => (intro w0 hSw; (try dsimp only at hSw); go_simp; try (with_reducible rfl))
              simp only [Act.put, List.setIfInBounds_toArray, List.set_cons_zero, List.set_cons_succ]
              refine wpAnyH_take (i := 12) (oi := { dst := some 9, op := Op.assign (Operand.tmp 60), type := 24, pos := "plain.go:72", after := #[{ on := 10, ground := Ground.data }, { on := 8, ground := Ground.chain }, { on := 0, ground := Ground.phase }, { on := 1, ground := Ground.phase }, { on := 2, ground := Ground.phase }, { on := 3, ground := Ground.phase }, { on := 4, ground := Ground.phase }, { on := 5, ground := Ground.phase }, { on := 6, ground := Ground.phase }, { on := 7, ground := Ground.phase }, { on := 8, ground := Ground.phase }, { on := 9, ground := Ground.phase }, { on := 10, ground := Ground.phase }, { on := 11, ground := Ground.textOnly Departure.lateStores }], guard := none }) (v := ?va312) rfl (by kernel_rfl) (by kernel_rfl) (by kernel_rfl) (fun _ _ _ h => h) (Or.inl ⟨by rfl, ?ha312⟩) (by assumption) ?ra312
              case ha312 => (intro w0 hSw; (try dsimp only at hSw); go_simp; try (with_reducible rfl))
              simp only [Act.put, List.setIfInBounds_toArray, List.set_cons_zero, List.set_cons_succ]
              refine wpAnyH_take (i := 13) (oi := { dst := some 10, op := Op.assign (Operand.tmp 61), type := 4, pos := "plain.go:72", after := #[{ on := 11, ground := Ground.data }, { on := 12, ground := Ground.chain }, { on := 0, ground := Ground.phase }, { on := 1, ground := Ground.phase }, { on := 2, ground := Ground.phase }, { on := 3, ground := Ground.phase }, { on := 4, ground := Ground.phase }, { on := 5, ground := Ground.phase }, { on := 6, ground := Ground.phase }, { on := 7, ground := Ground.phase }, { on := 8, ground := Ground.phase }, { on := 9, ground := Ground.phase }, { on := 10, ground := Ground.phase }, { on := 11, ground := Ground.phase }, { on := 12, ground := Ground.phase }], guard := none }) (v := ?va313) rfl (by kernel_rfl) (by kernel_rfl) (by kernel_rfl) (fun _ _ _ h => h) (Or.inl ⟨by rfl, ?ha313⟩) (by assumption) ?ra313
              case ha313 => (intro w0 hSw; (try dsimp only at hSw); go_simp; try (with_reducible rfl))
              simp only [Act.put, List.setIfInBounds_toArray, List.set_cons_zero, List.set_cons_succ]
              refine wpAnyH_done (by kernel_rfl) ?_ _
              rename_i hH
              clear x0 x1 x2 x3 x4 hc2 hput
              have D4 := Hid.mk (FN.out.2.2.1.lat bb)
              have B4 := Hid.mk (chain FN.out.2.2.2.1 bb (Nat.le_refl _))
              obtain ⟨g4, la4, lc4, e4, hc4, hf4, -, -⟩ := D4.out.at' FN.out.2.2.2.2.1
              cases e4
              clear bb b4 hH
              cases pb
              · clear hc4 hf4
                go_wp2
                first | refine ⟨⟨R2, k + 1, false, by rw [HR2.out]; exact D4.out, rfl, B4.out, .inl ⟨rfl, FN.out.1, FN.out.2.1, ival (by omega), FN.out.2.2.2.2.2.2⟩⟩, ?_⟩ | refine ⟨⟨_, _, _, DS.mk ⟨R2, k + 1, false, by rw [HR2.out]; exact D4.out, rfl, B4.out, .inl ⟨rfl, FN.out.1, FN.out.2.1, ival (by omega), FN.out.2.2.2.2.2.2⟩⟩, rfl, rfl, rfl⟩, ?_⟩
                show rl2 + 2 - ((k : Int) + 1).toNat < rl2 + 2 - (k : Int).toNat
                omega
              · obtain ⟨kk, pk, hnz, ho4⟩ : ∃ k2, PutK r x k2 ∧ (∀ h : k2 < r.length, cpE r[k2] x ≠ 0) ∧ w4.ownsRow 0 23 5 (.slice pa pn pc) (insP r x k2).length ((insP r x k2).flatMap enC) := by
                  rcases HP.out with ⟨h, -⟩ | ⟨-, h⟩
                  · cases h
                  · exact h
                have S4 := Hid.mk (D4.out.set FN.out.2.2.2.2.2.2 ho4)
                have R4 := Hid.mk (FN.out.1.set HX.out.1 FN.out.2.2.2.2.1 pk hnz)
                clear pk hnz ho4
                go_wp2
                first | refine ⟨⟨R2.set k (insP r x kk), k + 1, true, by rw [HR2.out]; simpa using S4.out.1, rfl, B4.out.trans S4.out.2, .inr ⟨rfl, R4.out, by rw [List.length_set]; have := FN.out.2.1; omega⟩⟩, ?_⟩ | refine ⟨⟨_, _, _, DS.mk ⟨R2.set k (insP r x kk), k + 1, true, by rw [HR2.out]; simpa using S4.out.1, rfl, B4.out.trans S4.out.2, .inr ⟨rfl, R4.out, by rw [List.length_set]; have := FN.out.2.1; omega⟩⟩, rfl, rfl, rfl⟩, ?_⟩
                show 0 < rl2 + 2 - (k : Int).toNat
                omega
            · have hkk : k = R2.length := by omega
              obtain ⟨a3, c3, w3, hap, hD3, hb3⟩ := hD.push hb2.size (by omega) (t := .slice none 0 0) (r := []) (nil_own _) rfl
              have hI3 := hI.push hlen
              have hr : (R2 ++ [[]])[k]? = some [] := by rw [hkk]; simp
              have hlen3 : R2.length + 1 = (R2 ++ [[]]).length := by simp
              rw [hlen3] at hD3
              obtain ⟨g2, la2, lc2, rfl, hc2, hf2, hcap2, hL2⟩ := hD3.at' hr
              rw [← hlen3] at hD3
              have hb23 := hb2.trans hb3
              obtain ⟨g', off', hge, hra⟩ := (HA.out.1.below hb23).at' (fun h => by rw [h] at hln; simp at hln)
              cases hge
              clear x0 x1 x2 x3 x4
              obtain ⟨x0, x1, x2, x3, x4⟩ := row_en hra rfl i hln
              have hxe : all[i] = x := (List.getElem?_eq_some_iff.1 HX.out.1).2
              rw [hxe] at x0 x1 x2 x3 x4
              have hput := fun W b => put_any [] la2 lc2 x W (hL2.below b) hcap2 (by simp)
              have k2 : (rl2 : Int) ≤ (k : Int) := by omega
              simp only [enC] at hput
              have FN := Hid.mk (And.intro hI3 (And.intro hlen (And.intro hD3 (And.intro hb23 (And.intro hr hkk)))))
              have hwm : IntKind.i64.wrap (((rl2 + 1 : Nat) : Int) - 1) = (k : Int) := by rw [IntKind.wrap_i64]; omega
              have hwm2 : IntKind.i64.wrap ((rl2 : Int) + 1 - 1) = (k : Int) := by rw [IntKind.wrap_i64]; omega
              have hwm3 : IntKind.i64.wrap (rl2 : Int) = (k : Int) := by rw [IntKind.wrap_i64]; omega
              have k1 : (k : Int) < (rl2 : Int) + 1 := by omega
              have k1' : k < rl2 + 1 := by omega
              rw [← hrr] at hap ⊢
              clear hI hlen hD hb2 hb3 hb23 hr hvc hk hkl hrr hcap2 hL2 hf2 hI3 hD3 hra hxe hlen3 hkk
              simp only [List.length_nil] at hc2 hput
              go_wp2_with (at_builtin; refine wpList_append_eq rfl _ _ _ _ rfl _ _ _ _ rfl rfl hap ?_; clear hap)
              refine wp_region_held_drew (S := (fun w' => Below w3.heap.size w3 w' ∧ w'.cell? ⟨g2, k, none⟩ = some (.slice la2 0 lc2) ∧ w'.cell? ⟨g, off + i * 5, none⟩ = some (.int .i64 x.v) ∧ w'.cell? ⟨g, off + i * 5 + 1, none⟩ = some (.string x.c) ∧ w'.cell? ⟨g, off + i * 5 + 2, none⟩ = some (.int .i64 x.i) ∧ w'.cell? ⟨g, off + i * 5 + 3, none⟩ = some (.int .i64 x.s) ∧ w'.cell? ⟨g, off + i * 5 + 4, none⟩ = some (.bool x.d))) (by kernel_rfl) ?_ (fun hHeld => ?_)
              · (refine (fun hb => ⟨hb, cell_lat hb hc2, cell_lat hb x0, cell_lat hb x1, cell_lat hb x2, cell_lat hb x3, cell_lat hb x4⟩) ?_; first | exact bb | exact b_drew w3)
              refine wpAnyH_take (i := 0) (oi := { dst := some 51, op := Op.move (Operand.tmp 5), type := 59, pos := "plain.go:72", after := #[], guard := none }) (v := ?vb30) rfl (by kernel_rfl) (by kernel_rfl) (by kernel_rfl) (fun _ _ _ h => h) (Or.inl ⟨by rfl, ?hb30⟩) (by assumption) ?rb30
              case hb30 => (intro w0 hSw; (try dsimp only at hSw); go_simp; try (with_reducible rfl))
              simp only [Act.put, List.setIfInBounds_toArray, List.set_cons_zero, List.set_cons_succ]
              refine wpAnyH_take (i := 1) (oi := { dst := some 52, op := Op.move (Operand.tmp 7), type := 3, pos := "plain.go:72", after := #[], guard := none }) (v := ?vb31) rfl (by kernel_rfl) (by kernel_rfl) (by kernel_rfl) (fun _ _ _ h => h) (Or.inl ⟨by rfl, ?hb31⟩) (by assumption) ?rb31
              case hb31 => (intro w0 hSw; (try dsimp only at hSw); go_simp; try (with_reducible rfl))
              simp only [Act.put, List.setIfInBounds_toArray, List.set_cons_zero, List.set_cons_succ]
              refine wpAnyH_take (i := 2) (oi := { dst := some 53, op := Op.indexAddr 59 (Operand.tmp 51) (Operand.tmp 52), type := 0, pos := "plain.go:72", after := #[{ on := 0, ground := Ground.data }, { on := 1, ground := Ground.data }], guard := none }) (v := ?vb32) rfl (by kernel_rfl) (by kernel_rfl) (by kernel_rfl) (fun _ _ _ h => h) (Or.inl ⟨by rfl, ?hb32⟩) (by assumption) ?rb32
              case hb32 => (intro w0 hSw; (try dsimp only at hSw); go_simp; try (with_reducible rfl))
              simp only [Act.put, List.setIfInBounds_toArray, List.set_cons_zero, List.set_cons_succ]
              refine wpAnyH_take (i := 3) (oi := { dst := some 54, op := Op.load 24 (Operand.tmp 53), type := 24, pos := "plain.go:72", after := #[{ on := 2, ground := Ground.data }], guard := none }) (v := ?vb33) rfl (by kernel_rfl) (by kernel_rfl) (by kernel_rfl) (fun _ _ _ h => h) (Or.inl ⟨by rfl, ?hb33⟩) (by assumption) ?rb33
              case hb33 => (intro w0 hSw; (try dsimp only at hSw); go_simp; try (with_reducible rfl))
              simp only [Act.put, List.setIfInBounds_toArray, List.set_cons_zero, List.set_cons_succ]
              refine wpAnyH_take (i := 4) (oi := { dst := some 55, op := Op.move (Operand.tmp 0), type := 24, pos := "plain.go:72", after := #[], guard := none }) (v := ?vb34) rfl (by kernel_rfl) (by kernel_rfl) (by kernel_rfl) (fun _ _ _ h => h) (Or.inl ⟨by rfl, ?hb34⟩) (by assumption) ?rb34
              case hb34 => (intro w0 hSw; (try dsimp only at hSw); go_simp; try (with_reducible rfl))
              simp only [Act.put, List.setIfInBounds_toArray, List.set_cons_zero, List.set_cons_succ]
              refine wpAnyH_take (i := 5) (oi := { dst := some 56, op := Op.move (Operand.tmp 6), type := 3, pos := "plain.go:72", after := #[], guard := none }) (v := ?vb35) rfl (by kernel_rfl) (by kernel_rfl) (by kernel_rfl) (fun _ _ _ h => h) (Or.inl ⟨by rfl, ?hb35⟩) (by assumption) ?rb35
              case hb35 => (intro w0 hSw; (try dsimp only at hSw); go_simp; try (with_reducible rfl))
              simp only [Act.put, List.setIfInBounds_toArray, List.set_cons_zero, List.set_cons_succ]
              refine wpAnyH_take (i := 6) (oi := { dst := some 57, op := Op.indexAddr 24 (Operand.tmp 55) (Operand.tmp 56), type := 0, pos := "plain.go:72", after := #[{ on := 4, ground := Ground.data }, { on := 5, ground := Ground.data }], guard := none }) (v := ?vb36) rfl (by kernel_rfl) (by kernel_rfl) (by kernel_rfl) (fun _ _ _ h => h) (Or.inl ⟨by rfl, ?hb36⟩) (by assumption) ?rb36
              case hb36 => (intro w0 hSw; (try dsimp only at hSw); go_simp; try (with_reducible rfl))
              simp only [Act.put, List.setIfInBounds_toArray, List.set_cons_zero, List.set_cons_succ]
              refine wpAnyH_take (i := 7) (oi := { dst := some 58, op := Op.load 23 (Operand.tmp 57), type := 23, pos := "plain.go:72", after := #[{ on := 6, ground := Ground.data }], guard := none }) (v := ?vb37) rfl (by kernel_rfl) (by kernel_rfl) (by kernel_rfl) (fun _ _ _ h => h) (Or.inl ⟨by rfl, ?hb37⟩) (by assumption) ?rb37
              case hb37 => (intro w0 hSw; (try dsimp only at hSw); go_simp; try (with_reducible rfl))
              simp only [Act.put, List.setIfInBounds_toArray, List.set_cons_zero, List.set_cons_succ]
              refine wpAnyH_ready (rs := [8]) (by kernel_rfl) (by simp) ?_
              refine AllReadyH.cons rfl (fun K hK => ?_) AllReadyH.nil
              go_simp
              go_wp2_with (go_at_call 45; refine (hput _ (b_drew w3)).mono ?_; rintro rr w4 hP; obtain ⟨pa, pn, pc, pb, rfl, b4, alt⟩ := hP.form; have bb : Below w3.heap.size w3 w4 := below_d b4; have HP := Hid.mk alt; clear alt hP)
              refine hK.out _ _ ?_ (fun hHeld => ?_)
              · (refine (fun hb => ⟨hb, cell_lat hb hc2, cell_lat hb x0, cell_lat hb x1, cell_lat hb x2, cell_lat hb x3, cell_lat hb x4⟩) ?_; first | exact bb | exact b_drew w3)
              clear hK K
              refine wpAnyH_take (i := 9) (oi := { dst := some 50, op := Op.move (Operand.tmp 59), type := 88, pos := "plain.go:72", after := #[{ on := 8, ground := Ground.data }], guard := none }) (v := ?vb39) rfl (by kernel_rfl) (by kernel_rfl) (by kernel_rfl) (fun _ _ _ h => h) (Or.inl ⟨by rfl, ?hb39⟩) (by assumption) ?rb39
              case hb39 => (intro w0 hSw; (try dsimp only at hSw); go_simp; try (with_reducible rfl))
              simp only [Act.put, List.setIfInBounds_toArray, List.set_cons_zero, List.set_cons_succ]
              refine wpAnyH_take (i := 10) (oi := { dst := some 60, op := Op.extract (Operand.tmp 50) 0, type := 24, pos := "plain.go:72", after := #[{ on := 9, ground := Ground.data }], guard := none }) (v := ?vb310) rfl (by kernel_rfl) (by kernel_rfl) (by kernel_rfl) (fun _ _ _ h => h) (Or.inl ⟨by rfl, ?hb310⟩) (by assumption) ?rb310
              case hb310 => (intro w0 hSw; (try dsimp only at hSw); go_simp; try (with_reducible rfl))
              simp only [Act.put, List.setIfInBounds_toArray, List.set_cons_zero, List.set_cons_succ]
              refine wpAnyH_take (i := 11) (oi := { dst := some 61, op := Op.extract (Operand.tmp 50) 1, type := 4, pos := "plain.go:72", after := #[{ on := 9, ground := Ground.data }, { on := 12, ground := Ground.gcOnly Departure.lateStores }], guard := none }) (v := ?vb311) rfl (by kernel_rfl) (by kernel_rfl) (by kernel_rfl) (fun _ _ _ h => h) (Or.inl ⟨by rfl, ?hb311⟩) (by assumption) ?rb311
              case hb311 => (intro w0 hSw; (try dsimp only at hSw); go_simp; try (with_reducible rfl))
              simp only [Act.put, List.setIfInBounds_toArray, List.set_cons_zero, List.set_cons_succ]
              refine wpAnyH_take (i := 12) (oi := { dst := some 9, op := Op.assign (Operand.tmp 60), type := 24, pos := "plain.go:72", after := #[{ on := 10, ground := Ground.data }, { on := 8, ground := Ground.chain }, { on := 0, ground := Ground.phase }, { on := 1, ground := Ground.phase }, { on := 2, ground := Ground.phase }, { on := 3, ground := Ground.phase }, { on := 4, ground := Ground.phase }, { on := 5, ground := Ground.phase }, { on := 6, ground := Ground.phase }, { on := 7, ground := Ground.phase }, { on := 8, ground := Ground.phase }, { on := 9, ground := Ground.phase }, { on := 10, ground := Ground.phase }, { on := 11, ground := Ground.textOnly Departure.lateStores }], guard := none }) (v := ?vb312) rfl (by kernel_rfl) (by kernel_rfl) (by kernel_rfl) (fun _ _ _ h => h) (Or.inl ⟨by rfl, ?hb312⟩) (by assumption) ?rb312
              case hb312 => (intro w0 hSw; (try dsimp only at hSw); go_simp; try (with_reducible rfl))
              simp only [Act.put, List.setIfInBounds_toArray, List.set_cons_zero, List.set_cons_succ]
              refine wpAnyH_take (i := 13) (oi := { dst := some 10, op := Op.assign (Operand.tmp 61), type := 4, pos := "plain.go:72", after := #[{ on := 11, ground := Ground.data }, { on := 12, ground := Ground.chain }, { on := 0, ground := Ground.phase }, { on := 1, ground := Ground.phase }, { on := 2, ground := Ground.phase }, { on := 3, ground := Ground.phase }, { on := 4, ground := Ground.phase }, { on := 5, ground := Ground.phase }, { on := 6, ground := Ground.phase }, { on := 7, ground := Ground.phase }, { on := 8, ground := Ground.phase }, { on := 9, ground := Ground.phase }, { on := 10, ground := Ground.phase }, { on := 11, ground := Ground.phase }, { on := 12, ground := Ground.phase }], guard := none }) (v := ?vb313) rfl (by kernel_rfl) (by kernel_rfl) (by kernel_rfl) (fun _ _ _ h => h) (Or.inl ⟨by rfl, ?hb313⟩) (by assumption) ?rb313
              case hb313 => (intro w0 hSw; (try dsimp only at hSw); go_simp; try (with_reducible rfl))
              simp only [Act.put, List.setIfInBounds_toArray, List.set_cons_zero, List.set_cons_succ]
              refine wpAnyH_done (by kernel_rfl) ?_ _
              rename_i hH
              clear x0 x1 x2 x3 x4 hc2 hput hH
              have hlen3 : R2.length + 1 = (R2 ++ [[]]).length := by simp
              have D4 := Hid.mk (by have h := FN.out.2.2.1.lat bb; rw [hlen3] at h; exact h)
              have B4 := Hid.mk (chain FN.out.2.2.2.1 bb (Nat.le_refl _))
              obtain ⟨g4, la4, lc4, e4, hc4, hf4, -, -⟩ := D4.out.at' FN.out.2.2.2.2.1
              cases e4
              simp only [List.length_nil] at hc4
              clear bb b4 hlen3
              cases pb
              · rcases HP.out with ⟨-, h⟩ | ⟨h, -⟩
                · exact absurd rfl h
                · cases h
              · obtain ⟨kk, pk, hnz, ho4⟩ : ∃ k2, PutK [] x k2 ∧ (∀ h : k2 < ([] : List En).length, cpE ([] : List En)[k2] x ≠ 0) ∧ w4.ownsRow 0 23 5 (.slice pa pn pc) (insP [] x k2).length ((insP [] x k2).flatMap enC) := by
                  rcases HP.out with ⟨h, -⟩ | ⟨-, h⟩
                  · cases h
                  · exact h
                have S4 := Hid.mk (D4.out.set (k := k) (by simp; have := FN.out.2.2.2.2.2; omega) ho4)
                have R4 := Hid.mk (FN.out.1.set HX.out.1 FN.out.2.2.2.2.1 pk hnz)
                clear pk hnz ho4
                go_wp2
                first | refine ⟨⟨(R2 ++ [[]]).set k (insP [] x kk), k + 1, true, by have h := S4.out.1; have hz : (R2 ++ [([] : List En)] : List (List En)).length = rl2 + 1 := (by simp [HR2.out]); rw [hz] at h; exact h, rfl, B4.out.trans S4.out.2, .inr ⟨rfl, R4.out, by rw [List.length_set]; simp; have := FN.out.2.1; omega⟩⟩, ?_⟩ | refine ⟨⟨_, _, _, DS.mk ⟨(R2 ++ [[]]).set k (insP [] x kk), k + 1, true, by have h := S4.out.1; have hz : (R2 ++ [([] : List En)] : List (List En)).length = rl2 + 1 := (by simp [HR2.out]); rw [hz] at h; exact h, rfl, B4.out.trans S4.out.2, .inr ⟨rfl, R4.out, by rw [List.length_set]; simp; have := FN.out.2.1; omega⟩⟩, rfl, rfl, rfl⟩, ?_⟩
                show 0 < rl2 + 2 - (k : Int).toNat
                omega
          · have FN := Hid.mk (And.intro hI (And.intro hlen (And.intro hD hb2)))
            clear hI hlen hD hb2 hvc
            go_wp2
            exact ⟨⟨i + 1, R2, ival (by omega), hlt, ⟨FN.out.1, FN.out.2.1⟩, FN.out.2.2.1, FN.out.2.2.2⟩, by simp only [intOf]; omega⟩
      · have S0 := Hid.mk (ST.out 0 (Nat.zero_le _))
        clear ST
        go_wp2
        clear t1
        go_loopw [5, 7, 8] (fun lv kv dv w2 => DS w all i lv kv dv w2) (fun lv kv dv _ => mD lv kv dv)
        case atStart => exact S0.out
        case round =>
          obtain ⟨R2, k, d, hD, rfl, hb2, alt⟩ := hrel.ex
          obtain ⟨w2, rfl⟩ : ∃ w2, w2 = wr := ⟨_, rfl⟩
          obtain ⟨va2, vc2, hv, hvc⟩ := hD.form
          subst hv
          clear hrel S0
          rcases alt with ⟨rfl, hI, hlen, rfl, hk⟩ | ⟨rfl, hI, hlen⟩
          · obtain ⟨g', off', hge, hra⟩ := (HA.out.1.below hb2).at' (fun h => by rw [h] at hln; simp at hln)
            cases hge
            obtain ⟨x0, x1, x2, x3, x4⟩ := row_en hra rfl i hln
            have hxe : all[i] = x := (List.getElem?_eq_some_iff.1 HX.out.1).2
            rw [hxe] at x0 x1 x2 x3 x4
            clear hra hxe
            obtain ⟨rl2, hrr⟩ : ∃ rl, rl = R2.length := ⟨_, rfl⟩
            have HR2 := Hid.mk hrr
            have hrl2 : rl2 ≤ 60 := by omega
            have hk60 : k ≤ 60 := by omega
            have k0' : 0 ≤ (k : Int) := by omega
            have hwk : IntKind.i64.wrap ((k : Int) + 1) = (k : Int) + 1 := by rw [IntKind.wrap_i64]; omega
            by_cases hkl : k < R2.length
            · obtain ⟨r, hr⟩ : ∃ r, R2[k]? = some r := ⟨_, List.getElem?_eq_getElem hkl⟩
              obtain ⟨g2, la2, lc2, rfl, hc2, hf2, hcap2, hL2⟩ := hD.at' hr
              have hrs := hI.short r (List.mem_of_getElem? hr)
              have hput := fun W b => put_any r la2 lc2 x W (hL2.below b) hcap2 (by omega)
              have k1 : (k : Int) < (rl2 : Int) := by omega
              have k2 : ¬ ((rl2 : Int) ≤ (k : Int)) := by omega
              simp only [enC] at hput
              have FN := Hid.mk (And.intro hI (And.intro hlen (And.intro hD (And.intro hb2 (And.intro hr (And.intro hk hkl))))))
              rw [← hrr]
              clear hI hlen hD hb2 hr hvc hk hkl hrr hrs hcap2 hL2 hf2
              go_wp2
              refine wp_region_held_drew (S := (fun w' => Below w2.heap.size w2 w' ∧ w'.cell? ⟨g2, k, none⟩ = some (.slice la2 r.length lc2) ∧ w'.cell? ⟨g, off + i * 5, none⟩ = some (.int .i64 x.v) ∧ w'.cell? ⟨g, off + i * 5 + 1, none⟩ = some (.string x.c) ∧ w'.cell? ⟨g, off + i * 5 + 2, none⟩ = some (.int .i64 x.i) ∧ w'.cell? ⟨g, off + i * 5 + 3, none⟩ = some (.int .i64 x.s) ∧ w'.cell? ⟨g, off + i * 5 + 4, none⟩ = some (.bool x.d))) (by kernel_rfl) ?_ (fun hHeld => ?_)
              · (refine (fun hb => ⟨hb, cell_lat hb hc2, cell_lat hb x0, cell_lat hb x1, cell_lat hb x2, cell_lat hb x3, cell_lat hb x4⟩) ?_; first | exact bb | exact b_drew w2)
              refine wpAnyH_take (i := 0) (oi := { dst := some 51, op := Op.move (Operand.tmp 5), type := 59, pos := "plain.go:72", after := #[], guard := none }) (v := ?va40) rfl (by kernel_rfl) (by kernel_rfl) (by kernel_rfl) (fun _ _ _ h => h) (Or.inl ⟨by rfl, ?ha40⟩) (by assumption) ?ra40
              case ha40 => (intro w0 hSw; (try dsimp only at hSw); go_simp; try (with_reducible rfl))
              simp only [Act.put, List.setIfInBounds_toArray, List.set_cons_zero, List.set_cons_succ]
              refine wpAnyH_take (i := 1) (oi := { dst := some 52, op := Op.move (Operand.tmp 7), type := 3, pos := "plain.go:72", after := #[], guard := none }) (v := ?va41) rfl (by kernel_rfl) (by kernel_rfl) (by kernel_rfl) (fun _ _ _ h => h) (Or.inl ⟨by rfl, ?ha41⟩) (by assumption) ?ra41
              case ha41 => (intro w0 hSw; (try dsimp only at hSw); go_simp; try (with_reducible rfl))
              simp only [Act.put, List.setIfInBounds_toArray, List.set_cons_zero, List.set_cons_succ]
              refine wpAnyH_take (i := 2) (oi := { dst := some 53, op := Op.indexAddr 59 (Operand.tmp 51) (Operand.tmp 52), type := 0, pos := "plain.go:72", after := #[{ on := 0, ground := Ground.data }, { on := 1, ground := Ground.data }], guard := none }) (v := ?va42) rfl (by kernel_rfl) (by kernel_rfl) (by kernel_rfl) (fun _ _ _ h => h) (Or.inl ⟨by rfl, ?ha42⟩) (by assumption) ?ra42
              case ha42 => (intro w0 hSw; (try dsimp only at hSw); go_simp; try (with_reducible rfl))
              simp only [Act.put, List.setIfInBounds_toArray, List.set_cons_zero, List.set_cons_succ]
              refine wpAnyH_take (i := 3) (oi := { dst := some 54, op := Op.load 24 (Operand.tmp 53), type := 24, pos := "plain.go:72", after := #[{ on := 2, ground := Ground.data }], guard := none }) (v := ?va43) rfl (by kernel_rfl) (by kernel_rfl) (by kernel_rfl) (fun _ _ _ h => h) (Or.inl ⟨by rfl, ?ha43⟩) (by assumption) ?ra43
              case ha43 => (intro w0 hSw; (try dsimp only at hSw); go_simp; try (with_reducible rfl))
              simp only [Act.put, List.setIfInBounds_toArray, List.set_cons_zero, List.set_cons_succ]
              refine wpAnyH_take (i := 4) (oi := { dst := some 55, op := Op.move (Operand.tmp 0), type := 24, pos := "plain.go:72", after := #[], guard := none }) (v := ?va44) rfl (by kernel_rfl) (by kernel_rfl) (by kernel_rfl) (fun _ _ _ h => h) (Or.inl ⟨by rfl, ?ha44⟩) (by assumption) ?ra44
              case ha44 => (intro w0 hSw; (try dsimp only at hSw); go_simp; try (with_reducible rfl))
              simp only [Act.put, List.setIfInBounds_toArray, List.set_cons_zero, List.set_cons_succ]
              refine wpAnyH_take (i := 5) (oi := { dst := some 56, op := Op.move (Operand.tmp 6), type := 3, pos := "plain.go:72", after := #[], guard := none }) (v := ?va45) rfl (by kernel_rfl) (by kernel_rfl) (by kernel_rfl) (fun _ _ _ h => h) (Or.inl ⟨by rfl, ?ha45⟩) (by assumption) ?ra45
              case ha45 => (intro w0 hSw; (try dsimp only at hSw); go_simp; try (with_reducible rfl))
              simp only [Act.put, List.setIfInBounds_toArray, List.set_cons_zero, List.set_cons_succ]
              refine wpAnyH_take (i := 6) (oi := { dst := some 57, op := Op.indexAddr 24 (Operand.tmp 55) (Operand.tmp 56), type := 0, pos := "plain.go:72", after := #[{ on := 4, ground := Ground.data }, { on := 5, ground := Ground.data }], guard := none }) (v := ?va46) rfl (by kernel_rfl) (by kernel_rfl) (by kernel_rfl) (fun _ _ _ h => h) (Or.inl ⟨by rfl, ?ha46⟩) (by assumption) ?ra46
              case ha46 => (intro w0 hSw; (try dsimp only at hSw); go_simp; try (with_reducible rfl))
              simp only [Act.put, List.setIfInBounds_toArray, List.set_cons_zero, List.set_cons_succ]
              refine wpAnyH_take (i := 7) (oi := { dst := some 58, op := Op.load 23 (Operand.tmp 57), type := 23, pos := "plain.go:72", after := #[{ on := 6, ground := Ground.data }], guard := none }) (v := ?va47) rfl (by kernel_rfl) (by kernel_rfl) (by kernel_rfl) (fun _ _ _ h => h) (Or.inl ⟨by rfl, ?ha47⟩) (by assumption) ?ra47
              case ha47 => (intro w0 hSw; (try dsimp only at hSw); go_simp; try (with_reducible rfl))
              simp only [Act.put, List.setIfInBounds_toArray, List.set_cons_zero, List.set_cons_succ]
              refine wpAnyH_ready (rs := [8]) (by kernel_rfl) (by simp) ?_
              refine AllReadyH.cons rfl (fun K hK => ?_) AllReadyH.nil
              go_simp
              go_wp2_with (go_at_call 45; refine (hput _ (b_drew w2)).mono ?_; rintro rr w4 hP; obtain ⟨pa, pn, pc, pb, rfl, b4, alt⟩ := hP.form; have bb : Below w2.heap.size w2 w4 := below_d b4; have HP := Hid.mk alt; clear alt hP)
              refine hK.out _ _ ?_ (fun hHeld => ?_)
              · (refine (fun hb => ⟨hb, cell_lat hb hc2, cell_lat hb x0, cell_lat hb x1, cell_lat hb x2, cell_lat hb x3, cell_lat hb x4⟩) ?_; first | exact bb | exact b_drew w2)
              clear hK K
              refine wpAnyH_take (i := 9) (oi := { dst := some 50, op := Op.move (Operand.tmp 59), type := 88, pos := "plain.go:72", after := #[{ on := 8, ground := Ground.data }], guard := none }) (v := ?va49) rfl (by kernel_rfl) (by kernel_rfl) (by kernel_rfl) (fun _ _ _ h => h) (Or.inl ⟨by rfl, ?ha49⟩) (by assumption) ?ra49
              case ha49 => (intro w0 hSw; (try dsimp only at hSw); go_simp; try (with_reducible rfl))
              simp only [Act.put, List.setIfInBounds_toArray, List.set_cons_zero, List.set_cons_succ]
              refine wpAnyH_take (i := 10) (oi := { dst := some 60, op := Op.extract (Operand.tmp 50) 0, type := 24, pos := "plain.go:72", after := #[{ on := 9, ground := Ground.data }], guard := none }) (v := ?va410) rfl (by kernel_rfl) (by kernel_rfl) (by kernel_rfl) (fun _ _ _ h => h) (Or.inl ⟨by rfl, ?ha410⟩) (by assumption) ?ra410
              case ha410 => (intro w0 hSw; (try dsimp only at hSw); go_simp; try (with_reducible rfl))
              simp only [Act.put, List.setIfInBounds_toArray, List.set_cons_zero, List.set_cons_succ]
              refine wpAnyH_take (i := 11) (oi := { dst := some 61, op := Op.extract (Operand.tmp 50) 1, type := 4, pos := "plain.go:72", after := #[{ on := 9, ground := Ground.data }, { on := 12, ground := Ground.gcOnly Departure.lateStores }], guard := none }) (v := ?va411) rfl (by kernel_rfl) (by kernel_rfl) (by kernel_rfl) (fun _ _ _ h => h) (Or.inl ⟨by rfl, ?ha411⟩) (by assumption) ?ra411
              case ha411 => (intro w0 hSw; (try dsimp only at hSw); go_simp; try (with_reducible rfl))
              simp only [Act.put, List.setIfInBounds_toArray, List.set_cons_zero, List.set_cons_succ]
              refine wpAnyH_take (i := 12) (oi := { dst := some 9, op := Op.assign (Operand.tmp 60), type := 24, pos := "plain.go:72", after := #[{ on := 10, ground := Ground.data }, { on := 8, ground := Ground.chain }, { on := 0, ground := Ground.phase }, { on := 1, ground := Ground.phase }, { on := 2, ground := Ground.phase }, { on := 3, ground := Ground.phase }, { on := 4, ground := Ground.phase }, { on := 5, ground := Ground.phase }, { on := 6, ground := Ground.phase }, { on := 7, ground := Ground.phase }, { on := 8, ground := Ground.phase }, { on := 9, ground := Ground.phase }, { on := 10, ground := Ground.phase }, { on := 11, ground := Ground.textOnly Departure.lateStores }], guard := none }) (v := ?va412) rfl (by kernel_rfl) (by kernel_rfl) (by kernel_rfl) (fun _ _ _ h => h) (Or.inl ⟨by rfl, ?ha412⟩) (by assumption) ?ra412
              case ha412 => (intro w0 hSw; (try dsimp only at hSw); go_simp; try (with_reducible rfl))
              simp only [Act.put, List.setIfInBounds_toArray, List.set_cons_zero, List.set_cons_succ]
              refine wpAnyH_take (i := 13) (oi := { dst := some 10, op := Op.assign (Operand.tmp 61), type := 4, pos := "plain.go:72", after := #[{ on := 11, ground := Ground.data }, { on := 12, ground := Ground.chain }, { on := 0, ground := Ground.phase }, { on := 1, ground := Ground.phase }, { on := 2, ground := Ground.phase }, { on := 3, ground := Ground.phase }, { on := 4, ground := Ground.phase }, { on := 5, ground := Ground.phase }, { on := 6, ground := Ground.phase }, { on := 7, ground := Ground.phase }, { on := 8, ground := Ground.phase }, { on := 9, ground := Ground.phase }, { on := 10, ground := Ground.phase }, { on := 11, ground := Ground.phase }, { on := 12, ground := Ground.phase }], guard := none }) (v := ?va413) rfl (by kernel_rfl) (by kernel_rfl) (by kernel_rfl) (fun _ _ _ h => h) (Or.inl ⟨by rfl, ?ha413⟩) (by assumption) ?ra413
              case ha413 => (intro w0 hSw; (try dsimp only at hSw); go_simp; try (with_reducible rfl))
              simp only [Act.put, List.setIfInBounds_toArray, List.set_cons_zero, List.set_cons_succ]
              refine wpAnyH_done (by kernel_rfl) ?_ _
              rename_i hH
              clear x0 x1 x2 x3 x4 hc2 hput
              have D4 := Hid.mk (FN.out.2.2.1.lat bb)
              have B4 := Hid.mk (chain FN.out.2.2.2.1 bb (Nat.le_refl _))
              obtain ⟨g4, la4, lc4, e4, hc4, hf4, -, -⟩ := D4.out.at' FN.out.2.2.2.2.1
              cases e4
              clear bb b4 hH
              cases pb
              · clear hc4 hf4
                go_wp2
                first | refine ⟨⟨R2, k + 1, false, by rw [HR2.out]; exact D4.out, rfl, B4.out, .inl ⟨rfl, FN.out.1, FN.out.2.1, ival (by omega), FN.out.2.2.2.2.2.2⟩⟩, ?_⟩ | refine ⟨⟨_, _, _, DS.mk ⟨R2, k + 1, false, by rw [HR2.out]; exact D4.out, rfl, B4.out, .inl ⟨rfl, FN.out.1, FN.out.2.1, ival (by omega), FN.out.2.2.2.2.2.2⟩⟩, rfl, rfl, rfl⟩, ?_⟩
                show rl2 + 2 - ((k : Int) + 1).toNat < rl2 + 2 - (k : Int).toNat
                omega
              · obtain ⟨kk, pk, hnz, ho4⟩ : ∃ k2, PutK r x k2 ∧ (∀ h : k2 < r.length, cpE r[k2] x ≠ 0) ∧ w4.ownsRow 0 23 5 (.slice pa pn pc) (insP r x k2).length ((insP r x k2).flatMap enC) := by
                  rcases HP.out with ⟨h, -⟩ | ⟨-, h⟩
                  · cases h
                  · exact h
                have S4 := Hid.mk (D4.out.set FN.out.2.2.2.2.2.2 ho4)
                have R4 := Hid.mk (FN.out.1.set HX.out.1 FN.out.2.2.2.2.1 pk hnz)
                clear pk hnz ho4
                go_wp2
                first | refine ⟨⟨R2.set k (insP r x kk), k + 1, true, by rw [HR2.out]; simpa using S4.out.1, rfl, B4.out.trans S4.out.2, .inr ⟨rfl, R4.out, by rw [List.length_set]; have := FN.out.2.1; omega⟩⟩, ?_⟩ | refine ⟨⟨_, _, _, DS.mk ⟨R2.set k (insP r x kk), k + 1, true, by rw [HR2.out]; simpa using S4.out.1, rfl, B4.out.trans S4.out.2, .inr ⟨rfl, R4.out, by rw [List.length_set]; have := FN.out.2.1; omega⟩⟩, rfl, rfl, rfl⟩, ?_⟩
                show 0 < rl2 + 2 - (k : Int).toNat
                omega
            · have hkk : k = R2.length := by omega
              obtain ⟨a3, c3, w3, hap, hD3, hb3⟩ := hD.push hb2.size (by omega) (t := .slice none 0 0) (r := []) (nil_own _) rfl
              have hI3 := hI.push hlen
              have hr : (R2 ++ [[]])[k]? = some [] := by rw [hkk]; simp
              have hlen3 : R2.length + 1 = (R2 ++ [[]]).length := by simp
              rw [hlen3] at hD3
              obtain ⟨g2, la2, lc2, rfl, hc2, hf2, hcap2, hL2⟩ := hD3.at' hr
              rw [← hlen3] at hD3
              have hb23 := hb2.trans hb3
              obtain ⟨g', off', hge, hra⟩ := (HA.out.1.below hb23).at' (fun h => by rw [h] at hln; simp at hln)
              cases hge
              clear x0 x1 x2 x3 x4
              obtain ⟨x0, x1, x2, x3, x4⟩ := row_en hra rfl i hln
              have hxe : all[i] = x := (List.getElem?_eq_some_iff.1 HX.out.1).2
              rw [hxe] at x0 x1 x2 x3 x4
              have hput := fun W b => put_any [] la2 lc2 x W (hL2.below b) hcap2 (by simp)
              have k2 : (rl2 : Int) ≤ (k : Int) := by omega
              simp only [enC] at hput
              have FN := Hid.mk (And.intro hI3 (And.intro hlen (And.intro hD3 (And.intro hb23 (And.intro hr hkk)))))
              have hwm : IntKind.i64.wrap (((rl2 + 1 : Nat) : Int) - 1) = (k : Int) := by rw [IntKind.wrap_i64]; omega
              have hwm2 : IntKind.i64.wrap ((rl2 : Int) + 1 - 1) = (k : Int) := by rw [IntKind.wrap_i64]; omega
              have hwm3 : IntKind.i64.wrap (rl2 : Int) = (k : Int) := by rw [IntKind.wrap_i64]; omega
              have k1 : (k : Int) < (rl2 : Int) + 1 := by omega
              have k1' : k < rl2 + 1 := by omega
              rw [← hrr] at hap ⊢
              clear hI hlen hD hb2 hb3 hb23 hr hvc hk hkl hrr hcap2 hL2 hf2 hI3 hD3 hra hxe hlen3 hkk
              simp only [List.length_nil] at hc2 hput
              go_wp2_with (at_builtin; refine wpList_append_eq rfl _ _ _ _ rfl _ _ _ _ rfl rfl hap ?_; clear hap)
              refine wp_region_held_drew (S := (fun w' => Below w3.heap.size w3 w' ∧ w'.cell? ⟨g2, k, none⟩ = some (.slice la2 0 lc2) ∧ w'.cell? ⟨g, off + i * 5, none⟩ = some (.int .i64 x.v) ∧ w'.cell? ⟨g, off + i * 5 + 1, none⟩ = some (.string x.c) ∧ w'.cell? ⟨g, off + i * 5 + 2, none⟩ = some (.int .i64 x.i) ∧ w'.cell? ⟨g, off + i * 5 + 3, none⟩ = some (.int .i64 x.s) ∧ w'.cell? ⟨g, off + i * 5 + 4, none⟩ = some (.bool x.d))) (by kernel_rfl) ?_ (fun hHeld => ?_)
              · (refine (fun hb => ⟨hb, cell_lat hb hc2, cell_lat hb x0, cell_lat hb x1, cell_lat hb x2, cell_lat hb x3, cell_lat hb x4⟩) ?_; first | exact bb | exact b_drew w3)
              refine wpAnyH_take (i := 0) (oi := { dst := some 51, op := Op.move (Operand.tmp 5), type := 59, pos := "plain.go:72", after := #[], guard := none }) (v := ?vb40) rfl (by kernel_rfl) (by kernel_rfl) (by kernel_rfl) (fun _ _ _ h => h) (Or.inl ⟨by rfl, ?hb40⟩) (by assumption) ?rb40
              case hb40 => (intro w0 hSw; (try dsimp only at hSw); go_simp; try (with_reducible rfl))
              simp only [Act.put, List.setIfInBounds_toArray, List.set_cons_zero, List.set_cons_succ]
              refine wpAnyH_take (i := 1) (oi := { dst := some 52, op := Op.move (Operand.tmp 7), type := 3, pos := "plain.go:72", after := #[], guard := none }) (v := ?vb41) rfl (by kernel_rfl) (by kernel_rfl) (by kernel_rfl) (fun _ _ _ h => h) (Or.inl ⟨by rfl, ?hb41⟩) (by assumption) ?rb41
              case hb41 => (intro w0 hSw; (try dsimp only at hSw); go_simp; try (with_reducible rfl))
              simp only [Act.put, List.setIfInBounds_toArray, List.set_cons_zero, List.set_cons_succ]
              refine wpAnyH_take (i := 2) (oi := { dst := some 53, op := Op.indexAddr 59 (Operand.tmp 51) (Operand.tmp 52), type := 0, pos := "plain.go:72", after := #[{ on := 0, ground := Ground.data }, { on := 1, ground := Ground.data }], guard := none }) (v := ?vb42) rfl (by kernel_rfl) (by kernel_rfl) (by kernel_rfl) (fun _ _ _ h => h) (Or.inl ⟨by rfl, ?hb42⟩) (by assumption) ?rb42
              case hb42 => (intro w0 hSw; (try dsimp only at hSw); go_simp; try (with_reducible rfl))
              simp only [Act.put, List.setIfInBounds_toArray, List.set_cons_zero, List.set_cons_succ]
              refine wpAnyH_take (i := 3) (oi := { dst := some 54, op := Op.load 24 (Operand.tmp 53), type := 24, pos := "plain.go:72", after := #[{ on := 2, ground := Ground.data }], guard := none }) (v := ?vb43) rfl (by kernel_rfl) (by kernel_rfl) (by kernel_rfl) (fun _ _ _ h => h) (Or.inl ⟨by rfl, ?hb43⟩) (by assumption) ?rb43
              case hb43 => (intro w0 hSw; (try dsimp only at hSw); go_simp; try (with_reducible rfl))
              simp only [Act.put, List.setIfInBounds_toArray, List.set_cons_zero, List.set_cons_succ]
              refine wpAnyH_take (i := 4) (oi := { dst := some 55, op := Op.move (Operand.tmp 0), type := 24, pos := "plain.go:72", after := #[], guard := none }) (v := ?vb44) rfl (by kernel_rfl) (by kernel_rfl) (by kernel_rfl) (fun _ _ _ h => h) (Or.inl ⟨by rfl, ?hb44⟩) (by assumption) ?rb44
              case hb44 => (intro w0 hSw; (try dsimp only at hSw); go_simp; try (with_reducible rfl))
              simp only [Act.put, List.setIfInBounds_toArray, List.set_cons_zero, List.set_cons_succ]
              refine wpAnyH_take (i := 5) (oi := { dst := some 56, op := Op.move (Operand.tmp 6), type := 3, pos := "plain.go:72", after := #[], guard := none }) (v := ?vb45) rfl (by kernel_rfl) (by kernel_rfl) (by kernel_rfl) (fun _ _ _ h => h) (Or.inl ⟨by rfl, ?hb45⟩) (by assumption) ?rb45
              case hb45 => (intro w0 hSw; (try dsimp only at hSw); go_simp; try (with_reducible rfl))
              simp only [Act.put, List.setIfInBounds_toArray, List.set_cons_zero, List.set_cons_succ]
              refine wpAnyH_take (i := 6) (oi := { dst := some 57, op := Op.indexAddr 24 (Operand.tmp 55) (Operand.tmp 56), type := 0, pos := "plain.go:72", after := #[{ on := 4, ground := Ground.data }, { on := 5, ground := Ground.data }], guard := none }) (v := ?vb46) rfl (by kernel_rfl) (by kernel_rfl) (by kernel_rfl) (fun _ _ _ h => h) (Or.inl ⟨by rfl, ?hb46⟩) (by assumption) ?rb46
              case hb46 => (intro w0 hSw; (try dsimp only at hSw); go_simp; try (with_reducible rfl))
              simp only [Act.put, List.setIfInBounds_toArray, List.set_cons_zero, List.set_cons_succ]
              refine wpAnyH_take (i := 7) (oi := { dst := some 58, op := Op.load 23 (Operand.tmp 57), type := 23, pos := "plain.go:72", after := #[{ on := 6, ground := Ground.data }], guard := none }) (v := ?vb47) rfl (by kernel_rfl) (by kernel_rfl) (by kernel_rfl) (fun _ _ _ h => h) (Or.inl ⟨by rfl, ?hb47⟩) (by assumption) ?rb47
              case hb47 => (intro w0 hSw; (try dsimp only at hSw); go_simp; try (with_reducible rfl))
              simp only [Act.put, List.setIfInBounds_toArray, List.set_cons_zero, List.set_cons_succ]
              refine wpAnyH_ready (rs := [8]) (by kernel_rfl) (by simp) ?_
              refine AllReadyH.cons rfl (fun K hK => ?_) AllReadyH.nil
              go_simp
              go_wp2_with (go_at_call 45; refine (hput _ (b_drew w3)).mono ?_; rintro rr w4 hP; obtain ⟨pa, pn, pc, pb, rfl, b4, alt⟩ := hP.form; have bb : Below w3.heap.size w3 w4 := below_d b4; have HP := Hid.mk alt; clear alt hP)
              refine hK.out _ _ ?_ (fun hHeld => ?_)
              · (refine (fun hb => ⟨hb, cell_lat hb hc2, cell_lat hb x0, cell_lat hb x1, cell_lat hb x2, cell_lat hb x3, cell_lat hb x4⟩) ?_; first | exact bb | exact b_drew w3)
              clear hK K
              refine wpAnyH_take (i := 9) (oi := { dst := some 50, op := Op.move (Operand.tmp 59), type := 88, pos := "plain.go:72", after := #[{ on := 8, ground := Ground.data }], guard := none }) (v := ?vb49) rfl (by kernel_rfl) (by kernel_rfl) (by kernel_rfl) (fun _ _ _ h => h) (Or.inl ⟨by rfl, ?hb49⟩) (by assumption) ?rb49
              case hb49 => (intro w0 hSw; (try dsimp only at hSw); go_simp; try (with_reducible rfl))
              simp only [Act.put, List.setIfInBounds_toArray, List.set_cons_zero, List.set_cons_succ]
              refine wpAnyH_take (i := 10) (oi := { dst := some 60, op := Op.extract (Operand.tmp 50) 0, type := 24, pos := "plain.go:72", after := #[{ on := 9, ground := Ground.data }], guard := none }) (v := ?vb410) rfl (by kernel_rfl) (by kernel_rfl) (by kernel_rfl) (fun _ _ _ h => h) (Or.inl ⟨by rfl, ?hb410⟩) (by assumption) ?rb410
              case hb410 => (intro w0 hSw; (try dsimp only at hSw); go_simp; try (with_reducible rfl))
              simp only [Act.put, List.setIfInBounds_toArray, List.set_cons_zero, List.set_cons_succ]
              refine wpAnyH_take (i := 11) (oi := { dst := some 61, op := Op.extract (Operand.tmp 50) 1, type := 4, pos := "plain.go:72", after := #[{ on := 9, ground := Ground.data }, { on := 12, ground := Ground.gcOnly Departure.lateStores }], guard := none }) (v := ?vb411) rfl (by kernel_rfl) (by kernel_rfl) (by kernel_rfl) (fun _ _ _ h => h) (Or.inl ⟨by rfl, ?hb411⟩) (by assumption) ?rb411
              case hb411 => (intro w0 hSw; (try dsimp only at hSw); go_simp; try (with_reducible rfl))
              simp only [Act.put, List.setIfInBounds_toArray, List.set_cons_zero, List.set_cons_succ]
              refine wpAnyH_take (i := 12) (oi := { dst := some 9, op := Op.assign (Operand.tmp 60), type := 24, pos := "plain.go:72", after := #[{ on := 10, ground := Ground.data }, { on := 8, ground := Ground.chain }, { on := 0, ground := Ground.phase }, { on := 1, ground := Ground.phase }, { on := 2, ground := Ground.phase }, { on := 3, ground := Ground.phase }, { on := 4, ground := Ground.phase }, { on := 5, ground := Ground.phase }, { on := 6, ground := Ground.phase }, { on := 7, ground := Ground.phase }, { on := 8, ground := Ground.phase }, { on := 9, ground := Ground.phase }, { on := 10, ground := Ground.phase }, { on := 11, ground := Ground.textOnly Departure.lateStores }], guard := none }) (v := ?vb412) rfl (by kernel_rfl) (by kernel_rfl) (by kernel_rfl) (fun _ _ _ h => h) (Or.inl ⟨by rfl, ?hb412⟩) (by assumption) ?rb412
              case hb412 => (intro w0 hSw; (try dsimp only at hSw); go_simp; try (with_reducible rfl))
              simp only [Act.put, List.setIfInBounds_toArray, List.set_cons_zero, List.set_cons_succ]
              refine wpAnyH_take (i := 13) (oi := { dst := some 10, op := Op.assign (Operand.tmp 61), type := 4, pos := "plain.go:72", after := #[{ on := 11, ground := Ground.data }, { on := 12, ground := Ground.chain }, { on := 0, ground := Ground.phase }, { on := 1, ground := Ground.phase }, { on := 2, ground := Ground.phase }, { on := 3, ground := Ground.phase }, { on := 4, ground := Ground.phase }, { on := 5, ground := Ground.phase }, { on := 6, ground := Ground.phase }, { on := 7, ground := Ground.phase }, { on := 8, ground := Ground.phase }, { on := 9, ground := Ground.phase }, { on := 10, ground := Ground.phase }, { on := 11, ground := Ground.phase }, { on := 12, ground := Ground.phase }], guard := none }) (v := ?vb413) rfl (by kernel_rfl) (by kernel_rfl) (by kernel_rfl) (fun _ _ _ h => h) (Or.inl ⟨by rfl, ?hb413⟩) (by assumption) ?rb413
              case hb413 => (intro w0 hSw; (try dsimp only at hSw); go_simp; try (with_reducible rfl))
              simp only [Act.put, List.setIfInBounds_toArray, List.set_cons_zero, List.set_cons_succ]
              refine wpAnyH_done (by kernel_rfl) ?_ _
              rename_i hH
              clear x0 x1 x2 x3 x4 hc2 hput hH
              have hlen3 : R2.length + 1 = (R2 ++ [[]]).length := by simp
              have D4 := Hid.mk (by have h := FN.out.2.2.1.lat bb; rw [hlen3] at h; exact h)
              have B4 := Hid.mk (chain FN.out.2.2.2.1 bb (Nat.le_refl _))
              obtain ⟨g4, la4, lc4, e4, hc4, hf4, -, -⟩ := D4.out.at' FN.out.2.2.2.2.1
              cases e4
              simp only [List.length_nil] at hc4
              clear bb b4 hlen3
              cases pb
              · rcases HP.out with ⟨-, h⟩ | ⟨h, -⟩
                · exact absurd rfl h
                · cases h
              · obtain ⟨kk, pk, hnz, ho4⟩ : ∃ k2, PutK [] x k2 ∧ (∀ h : k2 < ([] : List En).length, cpE ([] : List En)[k2] x ≠ 0) ∧ w4.ownsRow 0 23 5 (.slice pa pn pc) (insP [] x k2).length ((insP [] x k2).flatMap enC) := by
                  rcases HP.out with ⟨h, -⟩ | ⟨-, h⟩
                  · cases h
                  · exact h
                have S4 := Hid.mk (D4.out.set (k := k) (by simp; have := FN.out.2.2.2.2.2; omega) ho4)
                have R4 := Hid.mk (FN.out.1.set HX.out.1 FN.out.2.2.2.2.1 pk hnz)
                clear pk hnz ho4
                go_wp2
                first | refine ⟨⟨(R2 ++ [[]]).set k (insP [] x kk), k + 1, true, by have h := S4.out.1; have hz : (R2 ++ [([] : List En)] : List (List En)).length = rl2 + 1 := (by simp [HR2.out]); rw [hz] at h; exact h, rfl, B4.out.trans S4.out.2, .inr ⟨rfl, R4.out, by rw [List.length_set]; simp; have := FN.out.2.1; omega⟩⟩, ?_⟩ | refine ⟨⟨_, _, _, DS.mk ⟨(R2 ++ [[]]).set k (insP [] x kk), k + 1, true, by have h := S4.out.1; have hz : (R2 ++ [([] : List En)] : List (List En)).length = rl2 + 1 := (by simp [HR2.out]); rw [hz] at h; exact h, rfl, B4.out.trans S4.out.2, .inr ⟨rfl, R4.out, by rw [List.length_set]; simp; have := FN.out.2.1; omega⟩⟩, rfl, rfl, rfl⟩, ?_⟩
                show 0 < rl2 + 2 - (k : Int).toNat
                omega
          · have FN := Hid.mk (And.intro hI (And.intro hlen (And.intro hD hb2)))
            clear hI hlen hD hb2 hvc
            go_wp2
            exact ⟨⟨i + 1, R2, ival (by omega), hlt, ⟨FN.out.1, FN.out.2.1⟩, FN.out.2.2.1, FN.out.2.2.2⟩, by simp only [intOf]; omega⟩
    · have i1 : (n : Int) ≤ (i : Int) := by omega
      have hin : i = n := by omega
      have FN := Hid.mk (And.intro hb (And.intro hI (And.intro hD hin)))
      clear hb hI hD hin hlt
      go_wp2
      go_ret
      obtain ⟨f1, f2, f3, f5⟩ := FN.out
      rw [f5, HA.out.2.2] at f2
      exact ⟨f1, R, _, f2.1, f2.2, rfl, f3⟩
end Go.Proofs.Ytchikfabfhjkgaa
