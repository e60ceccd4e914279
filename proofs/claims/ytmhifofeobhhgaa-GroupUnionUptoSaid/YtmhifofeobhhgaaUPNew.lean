/-
  DERIVED. The program's New.
-/
import Derived.Test.YtmhifofeobhhgaaUPNew0
import Derived.BigQuiet
set_option linter.unusedVariables false
set_option linter.unusedSimpArgs false
namespace Go.Proofs.Ytmhifofeobhhgaa
open Go.RowKit Go.Shelf Go.Proofs.UnionMath
set_option maxHeartbeats 8000000 in
set_option maxRecDepth 100000 in
theorem new_any (la : Option Addr) (cap : Nat) (l : List Int) (w : World) (hA : iE.At w la l) (hla : ∀ a, la = some a → a.block < w.heap.size) (hl : l.length ≤ 1048576) :
    Calls Try.prog 4 #[.slice la l.length cap] w (PnO w l) := by
  obtain ⟨n, hn⟩ : ∃ n, l.length = n := ⟨_, rfl⟩
  rw [hn] at hl ⊢
  have HA := Hid.mk (And.intro hA (And.intro hn hla))
  have H0 := Hid.mk (PI1.start w l)
  obtain ⟨mb, hmb⟩ : ∃ mb, mb = w.heap.size := ⟨_, rfl⟩
  have HM := Hid.mk hmb
  clear hA hn hla hmb
  have hmm := @run_makeMap Try.prog
  go_enter Try.func4, Try.ntmps4
  go_wp2
  clear hmm
  rw [← HM.out]
  go_loopw [15] (fun u wr => ∃ (i : Nat) (S : List Int), u = .int .i64 i ∧ i ≤ n ∧ Hid (PI1 w wr l i S)) (fun u _ => n - (intOf u).toNat)
  case atStart => exact ⟨0, _, rfl, Nat.zero_le _, H0⟩
  case round =>
    obtain ⟨i, S, rfl, hin, HI⟩ := hrel
    clear H0
    by_cases hlt : i < n
    · have hlt' : (i : Int) < (n : Int) := by omega
      have hil : i < l.length := by rw [HA.out.2.1]; exact hlt
      obtain ⟨g, off, hgl, hr⟩ := HA.out.1.at' (fun e => by rw [e] at hil; simp at hil)
      subst hgl
      have k0 : wr.cell? ⟨g, off + i, none⟩ = some (.int .i64 l[i]) := cell_lat HI.out.bl (hr i _ (by rw [iCells, List.getElem?_map, List.getElem?_eq_getElem hil]; rfl))
      have hd : l.drop i = l[i] :: l.drop (i + 1) := List.drop_eq_getElem_cons hil
      have wi : IntKind.i64.wrap ((i : Int) + 1) = ((i + 1 : Nat) : Int) := i64_in _ (by omega) (by omega)
      have heq := HI.out.eq
      rw [hd] at heq
      have HLN := Hid.mk (And.intro hl HA.out.2.1)
      by_cases h1 : l[i] < 0
      · rw [nwE_id (.inl h1)] at heq
        have HQ := Hid.mk (And.intro heq HI.out.bl)
        obtain ⟨x, hx⟩ : ∃ x, x = l[i] := ⟨_, rfl⟩
        rw [← hx] at k0 h1
        clear heq hd hx hr hil HI
        go_wp2
        go_ret2
        exact ⟨HQ.out.2, .inr ⟨60, HQ.out.1, by decide, rfl⟩⟩
      · by_cases h2 : 281474976710656 < l[i]
        · rw [nwE_id (.inr h2)] at heq
          have HQ := Hid.mk (And.intro heq HI.out.bl)
          obtain ⟨x, hx⟩ : ∃ x, x = l[i] := ⟨_, rfl⟩
          rw [← hx] at k0 h1 h2
          clear heq hd hx hr hil HI
          go_wp2
          go_ret2
          exact ⟨HQ.out.2, .inr ⟨60, HQ.out.1, by decide, rfl⟩⟩
        · have hlk := HI.out.map.look (z := l[i]) ⟨by omega, by omega⟩
          rw [← HM.out] at hlk
          by_cases h3 : l[i] ∈ S
          · rw [nwE_two (by omega) h3] at heq
            have HQ := Hid.mk (And.intro heq HI.out.bl)
            rw [mE_in h3] at hlk
            simp only [Option.getD_some, Option.isSome_some] at hlk
            obtain ⟨x, hx⟩ : ∃ x, x = l[i] := ⟨_, rfl⟩
            rw [← hx] at k0 h1 h2 hlk
            clear heq hd hx hr hil HI h3
            go_wp2
            go_ret2
            exact ⟨HQ.out.2, .inr ⟨130, HQ.out.1, by decide, rfl⟩⟩
          · rw [nwE_on (by omega) h3] at heq
            rw [mE_out h3] at hlk
            simp only [Option.getD_none, Option.isSome_none] at hlk
            obtain ⟨W', hup, hN⟩ := HI.out.put hil (by rw [HLN.out.2]; exact HLN.out.1) h3 (by omega) heq
            rw [← HM.out] at hup
            obtain ⟨S', hN'⟩ : ∃ S', PI1 w W' l (i + 1) S' := ⟨_, hN⟩
            have HN := Hid.mk hN'
            obtain ⟨x, hx⟩ : ∃ x, x = l[i] := ⟨_, rfl⟩
            rw [← hx] at k0 h1 h2 hlk hup
            clear heq hd hr hN hN' hx hil HI h3
            go_wp2
            go_roundw
            case rel => exact ⟨i + 1, _, by go_num, by omega, HN⟩
            case measure => simp [intOf]; omega
    · have hlt' : ¬ (i : Int) < (n : Int) := by omega
      have hie : i = n := by omega
      subst hie
      have hp : S.Perm l := by have := HI.out.perm; rw [List.take_of_length_le (by rw [HA.out.2.1]; exact Nat.le_refl _)] at this; exact this
      have hSl : S.length = i := by rw [hp.length_eq, HA.out.2.1]
      have hIds : Ids S := ⟨HI.out.up, HI.out.bd, by rw [hSl]; exact hl⟩
      have heq : nwE [] l = (0, S) := by have := HI.out.eq; rw [← HA.out.2.1, List.drop_length] at this; exact this
      have HS := Hid.mk (And.intro hIds (And.intro hSl (And.intro heq (srt_up HI.out.up hp))))
      obtain ⟨wy, hwy⟩ : ∃ wy, wy = wr.drew := ⟨_, rfl⟩
      have Hm : Hid (IM wy mb i (mE S) ∧ Below w.heap.size w wy ∧ iE.At wy la l ∧ (∀ a, la = some a → a.block < wy.heap.size) ∧ w.heap.size ≤ mb) := by
        rw [hwy]
        refine ⟨?_, HI.out.bl.drew, (HA.out.1.below HI.out.bl).below (b_drew wr), fun a e => Nat.lt_of_lt_of_le (HA.out.2.2 a e) HI.out.bl.size, by rw [HM.out]; exact Nat.le_refl _⟩
        rw [HM.out]
        exact HI.out.map.below (b_drew wr)
      have HWY := Hid.mk hwy
      clear hlt HI hp hSl hIds heq hwy
      go_wp2_with fail
      refine wp_region_held_drew (S := fun _ => True) (by kernel_rfl) ?_ (fun hHeld => ?_)
      · trivial
      rw [← HWY.out]
      refine wpAnyH_take (i := 0) (oi := { dst := some 35, op := Op.move (Operand.tmp 0), type := 22, pos := "union.go:28", after := #[], guard := none }) (v := ?vu0) rfl (by kernel_rfl) (by kernel_rfl) (by kernel_rfl) (fun _ _ _ h => h) (Or.inl ⟨by rfl, ?hu0⟩) (by assumption) ?ru0
      case hu0 => (intro w0 hSw; (try dsimp only at hSw); go_simp; try (with_reducible rfl))
      simp only [Act.put, List.setIfInBounds_toArray, List.set_cons_zero, List.set_cons_succ]
      refine wpAnyH_take (i := 3) (oi := { dst := some 38, op := Op.move (Operand.tmp 4), type := 41, pos := "union.go:28", after := #[], guard := none }) (v := ?vu3) rfl (by kernel_rfl) (by kernel_rfl) (by kernel_rfl) (fun _ _ _ h => h) (Or.inl ⟨by rfl, ?hu3⟩) (by assumption) ?ru3
      case hu3 => (intro w0 hSw; (try dsimp only at hSw); go_simp; try (with_reducible rfl))
      simp only [Act.put, List.setIfInBounds_toArray, List.set_cons_zero, List.set_cons_succ]
      refine wpAnyH_take (i := 4) (oi := { dst := some 39, op := Op.move (Operand.tmp 0), type := 22, pos := "union.go:28", after := #[], guard := none }) (v := ?vu4) rfl (by kernel_rfl) (by kernel_rfl) (by kernel_rfl) (fun _ _ _ h => h) (Or.inl ⟨by rfl, ?hu4⟩) (by assumption) ?ru4
      case hu4 => (intro w0 hSw; (try dsimp only at hSw); go_simp; try (with_reducible rfl))
      simp only [Act.put, List.setIfInBounds_toArray, List.set_cons_zero, List.set_cons_succ]
      refine wpAnyH_take (i := 5) (oi := { dst := some 40, op := Op.call { callee := Callee.builtin Builtin.len, args := #[Operand.tmp 39], argTypes := #[22] }, type := 3, pos := "union.go:28", after := #[{ on := 4, ground := Ground.data }], guard := none }) (v := ?vu5) rfl (by kernel_rfl) (by kernel_rfl) (by kernel_rfl) (fun _ _ _ h => h) (Or.inl ⟨by rfl, ?hu5⟩) (by assumption) ?ru5
      case hu5 => (intro w0 hSw; (try dsimp only at hSw); go_simp; try (with_reducible rfl))
      simp only [Act.put, List.setIfInBounds_toArray, List.set_cons_zero, List.set_cons_succ]
      refine wpAnyH_ready (rs := [1, 6]) (by kernel_rfl) (by simp) ?_
      refine AllReadyH.cons rfl (fun K hK => ?_) (AllReadyH.cons rfl (fun K hK => ?_) AllReadyH.nil)
      · go_simp
        go_at_call 15
        refine (values_any la i cap wy).mono ?_
        rintro e wv ⟨rfl, hwv⟩
        refine hK.out _ _ ?_ (fun hHeld => ?_)
        · exact trivial
        clear hK K
        have bv : Below wy.heap.size wy wv := by rw [hwv]; exact (Below.refl _ _).alloc (Nat.le_refl _) _
        have cv : wv.cell? ⟨wy.heap.size, 0, none⟩ = some (.slice la i cap) := by rw [hwv]; exact (Boxed.new _ _ _).cell
        have Hm : Hid (IM wv mb i (mE S) ∧ Below w.heap.size w wv ∧ iE.At wv la l ∧ (∀ a, la = some a → a.block < wv.heap.size) ∧ w.heap.size ≤ mb) := ⟨Hm.out.1.below bv, chain Hm.out.2.1 bv (Nat.le_refl _), Hm.out.2.2.1.below bv, fun a e => Nat.lt_of_lt_of_le (Hm.out.2.2.2.1 a e) bv.size, Hm.out.2.2.2.2⟩
        clear hwv
        refine wpAnyH_ready (rs := [2, 6]) (by kernel_rfl) (by simp) ?_
        refine AllReadyH.cons rfl (fun K hK => ?_) (AllReadyH.cons rfl (fun K hK => ?_) AllReadyH.nil)
        · have hs := sorted_any wy.heap.size i la cap l wv cv HA.out.2.1 Hm.out.2.2.1 Hm.out.2.2.2.1 hl
          rw [HS.out.2.2.2] at hs
          go_simp
          go_at_call 14
          refine hs.mono ?_
          rintro e ws ⟨iv, rfl, hrow, hown, hbs⟩
          refine hK.out _ _ ?_ (fun hHeld => ?_)
          · exact trivial
          clear hK K
          clear hs
          refine wpAnyH_ready (rs := [6]) (by kernel_rfl) (by simp) ?_
          refine AllReadyH.cons rfl (fun K hK => ?_) AllReadyH.nil
          rw [if_pos (by rfl)]
          obtain ⟨wm, hmk, hzr, bm, hsz⟩ := El.make iOk ws 0 rfl i (by omega)
          refine oper_make_eq _ _ _ rfl _ _ hmk ?_
          go_simp
          refine hK.out _ _ ?_ (fun hHeld => ?_)
          · exact trivial
          clear hK K
          clear hmk hsz
          have HP := Hid.mk (P12.a (n := i) (Hm.out.1.below hbs) hl hrow (fun k hk => Nat.le_trans Hm.out.2.1.size (hown k hk)) Hm.out.2.2.2.2 (chain Hm.out.2.1 hbs (Nat.le_refl _)) hzr bm)
          obtain ⟨ag, hag⟩ : ∃ ag, ag = ws.heap.size := ⟨_, rfl⟩
          rw [← hag] at HP ⊢
          obtain ⟨ai, ci, hiv, -⟩ := HP.out.row.form
          rw [HS.out.2.1] at hiv
          subst hiv
          clear hag Hm hrow hown hbs hzr bm bv cv
          refine wpAnyH_take (i := 7) (oi := { dst := some 42, op := Op.build 48 #[(0, Operand.tmp 37), (1, Operand.tmp 38), (2, Operand.tmp 41)], type := 48, pos := "union.go:28", after := #[{ on := 2, ground := Ground.data }, { on := 3, ground := Ground.data }, { on := 6, ground := Ground.data }], guard := none }) (v := ?va7) rfl (by kernel_rfl) (by kernel_rfl) (by kernel_rfl) (fun _ _ _ h => h) (Or.inl ⟨by rfl, ?ha7⟩) (by assumption) ?ra7
          case ha7 => (intro w0 hSw; (try dsimp only at hSw); go_simp; try (with_reducible rfl))
          simp only [Act.put, List.setIfInBounds_toArray, List.set_cons_zero, List.set_cons_succ]
          refine wpAnyH_ready (rs := [8]) (by kernel_rfl) (by simp) ?_
          refine AllReadyH.cons rfl (fun K hK => ?_) AllReadyH.nil
          go_simp
          go_wp2_with (fail)
          refine hK.out _ _ ?_ (fun hHeld => ?_)
          · exact trivial
          clear hK K
          refine wpAnyH_take (i := 9) (oi := { dst := some 9, op := Op.assign (Operand.tmp 43), type := 24, pos := "union.go:28", after := #[{ on := 8, ground := Ground.data }, { on := 2, ground := Ground.chain }, { on := 0, ground := Ground.phase }, { on := 1, ground := Ground.phase }, { on := 2, ground := Ground.phase }, { on := 3, ground := Ground.phase }, { on := 4, ground := Ground.phase }, { on := 5, ground := Ground.phase }, { on := 6, ground := Ground.phase }, { on := 7, ground := Ground.phase }, { on := 8, ground := Ground.phase }], guard := none }) (v := ?va9) rfl (by kernel_rfl) (by kernel_rfl) (by kernel_rfl) (fun _ _ _ h => h) (Or.inl ⟨by rfl, ?ha9⟩) (by assumption) ?ra9
          case ha9 => (intro w0 hSw; (try dsimp only at hSw); go_simp; try (with_reducible rfl))
          simp only [Act.put, List.setIfInBounds_toArray, List.set_cons_zero, List.set_cons_succ]
          refine wpAnyH_done (by kernel_rfl) ?_ _
          have HQ := Hid.mk (HP.out.box HS.out.1.up)
          obtain ⟨wb, hwb⟩ : ∃ wb, wb = wm.alloc (.cells #[.slice ai i ci, .map (some mb), .slice (some ⟨ag, 0, none⟩) i i] 48) := ⟨_, rfl⟩
          rw [← hwb] at HQ ⊢
          obtain ⟨p, hpp⟩ : ∃ p, p = wm.heap.size := ⟨_, rfl⟩
          rw [← hpp] at HQ ⊢
          have c0 := HQ.out.cells.1
          clear hwb hpp HP HWY hHeld
          go_wp2
          go_loopw [49] (fun u wr => ∃ (k : Nat), u = .int .i64 k ∧ k ≤ i ∧ Hid (QP w wr p mb ag i (.slice ai i ci) S k)) (fun u _ => i - (intOf u).toNat)
          case atStart => exact ⟨0, rfl, Nat.zero_le _, HQ⟩
          case round =>
            obtain ⟨k, rfl, hki, HK⟩ := hrel
            clear HQ c0
            by_cases hk : k < i
            · have hk' : (k : Int) < (i : Int) := by omega
              have hkS : k < S.length := by rw [HS.out.2.1]; exact hk
              obtain ⟨g2, cap2, e2, z0, -⟩ := i_cell HK.out.row k hkS
              injection e2 with e21 e22 e23
              subst e21
              obtain ⟨wz, hwz⟩ : ∃ wz, wz = wr.drew := ⟨_, rfl⟩
              obtain ⟨v0, st, W1, W2, r1, r2, s1, s2, ⟨u, q1⟩, q2, N⟩ := HK.out.drew.step HS.out.1 HS.out.2.1 hkS
              obtain ⟨-, s01, s02⟩ := HK.out.drew.cells
              have s0 := And.intro s01 s02
              have s3 := N.cells.2
              rw [← hwz] at r1 s0
              have HN := Hid.mk N
              obtain ⟨x, hx⟩ : ∃ x, x = S[k] := ⟨_, rfl⟩
              rw [← hx] at r1 z0
              have wk : IntKind.i64.wrap ((k : Int) + 1) = ((k + 1 : Nat) : Int) := i64_in _ (by omega) (by omega)
              have HWZ := Hid.mk hwz
              clear hx hwz N HK e22 e23 hkS s01 s02
              go_wp2_with fail
              refine wp_region_held_drew (S := fun w' => w'.cell? ⟨p, 1, none⟩ = some (.map (some mb)) ∧ w'.cell? ⟨p, 2, none⟩ = some (.slice (some ⟨ag, 0, none⟩) i i)) (by kernel_rfl) ?_ (fun hHeld => ?_)
              · rw [HWZ.out] at s0; exact s0
              rw [← HWZ.out]
              refine wpAnyH_take (i := 0) (oi := { dst := some 54, op := Op.move (Operand.tmp 9), type := 24, pos := "union.go:30", after := #[], guard := none }) (v := ?vaz0) rfl (by kernel_rfl) (by kernel_rfl) (by kernel_rfl) (fun _ _ _ h => h) (Or.inl ⟨by rfl, ?haz0⟩) (by assumption) ?raz0
              case haz0 => (intro w0 hSw; (try dsimp only at hSw); go_simp; try (with_reducible rfl))
              simp only [Act.put, List.setIfInBounds_toArray, List.set_cons_zero, List.set_cons_succ]
              refine wpAnyH_take (i := 1) (oi := { dst := some 55, op := Op.nilCheck (Operand.tmp 54), type := 0, pos := "union.go:30", after := #[{ on := 0, ground := Ground.data }], guard := none }) (v := ?vaz1) rfl (by kernel_rfl) (by kernel_rfl) (by kernel_rfl) (fun _ _ _ h => h) (Or.inl ⟨by rfl, ?haz1⟩) (by assumption) ?raz1
              case haz1 => (intro w0 hSw; (try dsimp only at hSw); go_simp; try (with_reducible rfl))
              simp only [Act.put, List.setIfInBounds_toArray, List.set_cons_zero, List.set_cons_succ]
              refine wpAnyH_take (i := 2) (oi := { dst := some 56, op := Op.fieldAddr 48 (Operand.tmp 55) 1, type := 0, pos := "union.go:30", after := #[{ on := 1, ground := Ground.data }], guard := none }) (v := ?vaz2) rfl (by kernel_rfl) (by kernel_rfl) (by kernel_rfl) (fun _ _ _ h => h) (Or.inl ⟨by rfl, ?haz2⟩) (by assumption) ?raz2
              case haz2 => (intro w0 hSw; (try dsimp only at hSw); go_simp; try (with_reducible rfl))
              simp only [Act.put, List.setIfInBounds_toArray, List.set_cons_zero, List.set_cons_succ]
              refine wpAnyH_take (i := 3) (oi := { dst := some 57, op := Op.load 41 (Operand.tmp 56), type := 41, pos := "union.go:30", after := #[{ on := 2, ground := Ground.data }], guard := none }) (v := ?vaz3) rfl (by kernel_rfl) (by kernel_rfl) (by kernel_rfl) (fun _ _ _ h => h) (Or.inl ⟨by rfl, ?haz3⟩) (by assumption) ?raz3
              case haz3 => (intro w0 hSw; (try dsimp only at hSw); go_simp; try (with_reducible rfl))
              simp only [Act.put, List.setIfInBounds_toArray, List.set_cons_zero, List.set_cons_succ]
              refine wpAnyH_take (i := 4) (oi := { dst := some 58, op := Op.move (Operand.tmp 11), type := 3, pos := "union.go:30", after := #[], guard := none }) (v := ?vaz4) rfl (by kernel_rfl) (by kernel_rfl) (by kernel_rfl) (fun _ _ _ h => h) (Or.inl ⟨by rfl, ?haz4⟩) (by assumption) ?raz4
              case haz4 => (intro w0 hSw; (try dsimp only at hSw); go_simp; try (with_reducible rfl))
              simp only [Act.put, List.setIfInBounds_toArray, List.set_cons_zero, List.set_cons_succ]
              refine wpAnyH_take (i := 5) (oi := { dst := some 59, op := Op.move (Operand.tmp 9), type := 24, pos := "union.go:30", after := #[], guard := none }) (v := ?vaz5) rfl (by kernel_rfl) (by kernel_rfl) (by kernel_rfl) (fun _ _ _ h => h) (Or.inl ⟨by rfl, ?haz5⟩) (by assumption) ?raz5
              case haz5 => (intro w0 hSw; (try dsimp only at hSw); go_simp; try (with_reducible rfl))
              simp only [Act.put, List.setIfInBounds_toArray, List.set_cons_zero, List.set_cons_succ]
              refine wpAnyH_take (i := 6) (oi := { dst := some 60, op := Op.nilCheck (Operand.tmp 59), type := 0, pos := "union.go:30", after := #[{ on := 5, ground := Ground.data }], guard := none }) (v := ?vaz6) rfl (by kernel_rfl) (by kernel_rfl) (by kernel_rfl) (fun _ _ _ h => h) (Or.inl ⟨by rfl, ?haz6⟩) (by assumption) ?raz6
              case haz6 => (intro w0 hSw; (try dsimp only at hSw); go_simp; try (with_reducible rfl))
              simp only [Act.put, List.setIfInBounds_toArray, List.set_cons_zero, List.set_cons_succ]
              refine wpAnyH_take (i := 7) (oi := { dst := some 61, op := Op.fieldAddr 48 (Operand.tmp 60) 2, type := 0, pos := "union.go:30", after := #[{ on := 6, ground := Ground.data }], guard := none }) (v := ?vaz7) rfl (by kernel_rfl) (by kernel_rfl) (by kernel_rfl) (fun _ _ _ h => h) (Or.inl ⟨by rfl, ?haz7⟩) (by assumption) ?raz7
              case haz7 => (intro w0 hSw; (try dsimp only at hSw); go_simp; try (with_reducible rfl))
              simp only [Act.put, List.setIfInBounds_toArray, List.set_cons_zero, List.set_cons_succ]
              refine wpAnyH_take (i := 8) (oi := { dst := some 62, op := Op.load 22 (Operand.tmp 61), type := 22, pos := "union.go:30", after := #[{ on := 7, ground := Ground.data }], guard := none }) (v := ?vaz8) rfl (by kernel_rfl) (by kernel_rfl) (by kernel_rfl) (fun _ _ _ h => h) (Or.inl ⟨by rfl, ?haz8⟩) (by assumption) ?raz8
              case haz8 => (intro w0 hSw; (try dsimp only at hSw); go_simp; try (with_reducible rfl))
              simp only [Act.put, List.setIfInBounds_toArray, List.set_cons_zero, List.set_cons_succ]
              refine wpAnyH_take (i := 9) (oi := { dst := some 63, op := Op.move (Operand.tmp 10), type := 3, pos := "union.go:30", after := #[{ on := 14, ground := Ground.gcOnly Departure.lateStores }], guard := none }) (v := ?vaz9) rfl (by kernel_rfl) (by kernel_rfl) (by kernel_rfl) (fun _ _ _ h => h) (Or.inl ⟨by rfl, ?haz9⟩) (by assumption) ?raz9
              case haz9 => (intro w0 hSw; (try dsimp only at hSw); go_simp; try (with_reducible rfl))
              simp only [Act.put, List.setIfInBounds_toArray, List.set_cons_zero, List.set_cons_succ]
              refine wpAnyH_take (i := 10) (oi := { dst := some 64, op := Op.move (Operand.tmp 10), type := 3, pos := "union.go:30", after := #[{ on := 12, ground := Ground.gcOnly Departure.tupleMapEntryFirst }], guard := none }) (v := ?vaz10) rfl (by kernel_rfl) (by kernel_rfl) (by kernel_rfl) (fun _ _ _ h => h) (Or.inl ⟨by rfl, ?haz10⟩) (by assumption) ?raz10
              case haz10 => (intro w0 hSw; (try dsimp only at hSw); go_simp; try (with_reducible rfl))
              simp only [Act.put, List.setIfInBounds_toArray, List.set_cons_zero, List.set_cons_succ]
              refine wpAnyH_take (i := 11) (oi := { dst := some 65, op := Op.move (Operand.tmp 10), type := 3, pos := "union.go:30", after := #[{ on := 14, ground := Ground.gcOnly Departure.lateStores }], guard := none }) (v := ?vaz11) rfl (by kernel_rfl) (by kernel_rfl) (by kernel_rfl) (fun _ _ _ h => h) (Or.inl ⟨by rfl, ?haz11⟩) (by assumption) ?raz11
              case haz11 => (intro w0 hSw; (try dsimp only at hSw); go_simp; try (with_reducible rfl))
              simp only [Act.put, List.setIfInBounds_toArray, List.set_cons_zero, List.set_cons_succ]
              refine wpAnyH_ready (rs := [12]) (by kernel_rfl) (by simp) ?_
              refine AllReadyH.cons rfl (fun K hK => ?_) AllReadyH.nil
              rw [if_pos (by rfl)]
              refine oper_entry_eq _ _ _ rfl _ _ _ _ rfl rfl r1 ?_
              go_simp
              refine hK.out _ _ ?_ (fun hHeld => ?_)
              · exact s1
              clear hK K
              refine wpAnyH_take (i := 13) (oi := { dst := some 67, op := Op.extract (Operand.tmp 66) 1, type := 3, pos := "union.go:30", after := #[{ on := 12, ground := Ground.data }], guard := none }) (v := ?vaz13) rfl (by kernel_rfl) (by kernel_rfl) (by kernel_rfl) (fun _ _ _ h => h) (Or.inl ⟨by rfl, ?haz13⟩) (by assumption) ?raz13
              case haz13 => (intro w0 hSw; (try dsimp only at hSw); go_simp; try (with_reducible rfl))
              simp only [Act.put, List.setIfInBounds_toArray, List.set_cons_zero, List.set_cons_succ]
              refine wpAnyH_ready (rs := [14]) (by kernel_rfl) (by simp) ?_
              refine AllReadyH.cons rfl (fun K hK => ?_) AllReadyH.nil
              rw [if_pos (by rfl)]
              refine oper_estore_eq _ _ _ _ rfl _ _ _ _ rfl rfl rfl r2 ?_
              go_simp
              refine hK.out _ _ ?_ (fun hHeld => ?_)
              · exact s2
              clear hK K
              refine wpAnyH_take (i := 15) (oi := { dst := some 68, op := Op.indexAddr 22 (Operand.tmp 62) (Operand.tmp 63), type := 0, pos := "union.go:30", after := #[{ on := 8, ground := Ground.data }, { on := 9, ground := Ground.data }, { on := 0, ground := Ground.phase }, { on := 1, ground := Ground.phase }, { on := 2, ground := Ground.phase }, { on := 3, ground := Ground.phase }, { on := 4, ground := Ground.phase }, { on := 5, ground := Ground.phase }, { on := 6, ground := Ground.phase }, { on := 7, ground := Ground.phase }, { on := 8, ground := Ground.phase }, { on := 9, ground := Ground.phase }, { on := 10, ground := Ground.phase }, { on := 11, ground := Ground.phase }, { on := 12, ground := Ground.phase }, { on := 13, ground := Ground.phase }, { on := 14, ground := Ground.phase }], guard := none }) (v := ?vaz15) rfl (by kernel_rfl) (by kernel_rfl) (by kernel_rfl) (fun _ _ _ h => h) (Or.inl ⟨by rfl, ?haz15⟩) (by assumption) ?raz15
              case haz15 => (intro w0 hSw; (try dsimp only at hSw); go_simp; try (with_reducible rfl))
              simp only [Act.put, List.setIfInBounds_toArray, List.set_cons_zero, List.set_cons_succ]
              refine wpAnyH_ready (rs := [16]) (by kernel_rfl) (by simp) ?_
              refine AllReadyH.cons rfl (fun K hK => ?_) AllReadyH.nil
              go_simp
              go_wp2_with (fail)
              refine hK.out _ _ ?_ (fun hHeld => ?_)
              · exact s3
              clear hK K
              refine wpAnyH_done (by kernel_rfl) ?_ _
              go_wp2
              go_roundw
              case rel => exact ⟨k + 1, by go_num, by omega, HN⟩
              case measure => simp [intOf]; omega
            · have hk' : ¬ (k : Int) < (i : Int) := by omega
              have hke : k = i := by omega
              subst hke
              have HF := Hid.mk (QP.fin HK.out HS.out.1 HS.out.2.1 HS.out.2.2.1)
              go_wp2
              go_ret2
              exact HF.out
        · have hva := Hm.out.2.1.size
          rw [if_pos (by rfl)]
          obtain ⟨wm, hmk, hzr, bm, hsz⟩ := El.make iOk wv 0 rfl i (by omega)
          refine oper_make_eq _ _ _ rfl _ _ hmk ?_
          go_simp
          refine hK.out _ _ ?_ (fun hHeld => ?_)
          · exact trivial
          clear hK K
          clear hmk hsz
          have cv := cell_lat bm cv
          have Hm : Hid (IM wm mb i (mE S) ∧ Below w.heap.size w wm ∧ iE.At wm la l ∧ (∀ a, la = some a → a.block < wm.heap.size) ∧ w.heap.size ≤ mb) := ⟨Hm.out.1.below bm, chain Hm.out.2.1 bm (Nat.le_refl _), Hm.out.2.2.1.below bm, fun a e => Nat.lt_of_lt_of_le (Hm.out.2.2.2.1 a e) bm.size, Hm.out.2.2.2.2⟩
          refine wpAnyH_ready (rs := [2]) (by kernel_rfl) (by simp) ?_
          refine AllReadyH.cons rfl (fun K hK => ?_) AllReadyH.nil
          have hs := sorted_any wy.heap.size i la cap l wm cv HA.out.2.1 Hm.out.2.2.1 Hm.out.2.2.2.1 hl
          rw [HS.out.2.2.2] at hs
          go_simp
          go_at_call 14
          refine hs.mono ?_
          rintro e ws ⟨iv, rfl, hrow, hown, hbs⟩
          refine hK.out _ _ ?_ (fun hHeld => ?_)
          · exact trivial
          clear hK K
          clear hs
          have HP := Hid.mk (P12.b (ag := wv.heap.size) (n := i) Hm.out.1 hl hrow hown Hm.out.2.2.2.2 hva Hm.out.2.1 hzr hbs)
          obtain ⟨ag, hag⟩ : ∃ ag, ag = wv.heap.size := ⟨_, rfl⟩
          rw [← hag] at HP ⊢
          obtain ⟨ai, ci, hiv, -⟩ := HP.out.row.form
          rw [HS.out.2.1] at hiv
          subst hiv
          clear hag Hm hrow hown hbs hzr bm bv cv
          refine wpAnyH_take (i := 7) (oi := { dst := some 42, op := Op.build 48 #[(0, Operand.tmp 37), (1, Operand.tmp 38), (2, Operand.tmp 41)], type := 48, pos := "union.go:28", after := #[{ on := 2, ground := Ground.data }, { on := 3, ground := Ground.data }, { on := 6, ground := Ground.data }], guard := none }) (v := ?vb7) rfl (by kernel_rfl) (by kernel_rfl) (by kernel_rfl) (fun _ _ _ h => h) (Or.inl ⟨by rfl, ?hb7⟩) (by assumption) ?rb7
          case hb7 => (intro w0 hSw; (try dsimp only at hSw); go_simp; try (with_reducible rfl))
          simp only [Act.put, List.setIfInBounds_toArray, List.set_cons_zero, List.set_cons_succ]
          refine wpAnyH_ready (rs := [8]) (by kernel_rfl) (by simp) ?_
          refine AllReadyH.cons rfl (fun K hK => ?_) AllReadyH.nil
          go_simp
          go_wp2_with (fail)
          refine hK.out _ _ ?_ (fun hHeld => ?_)
          · exact trivial
          clear hK K
          refine wpAnyH_take (i := 9) (oi := { dst := some 9, op := Op.assign (Operand.tmp 43), type := 24, pos := "union.go:28", after := #[{ on := 8, ground := Ground.data }, { on := 2, ground := Ground.chain }, { on := 0, ground := Ground.phase }, { on := 1, ground := Ground.phase }, { on := 2, ground := Ground.phase }, { on := 3, ground := Ground.phase }, { on := 4, ground := Ground.phase }, { on := 5, ground := Ground.phase }, { on := 6, ground := Ground.phase }, { on := 7, ground := Ground.phase }, { on := 8, ground := Ground.phase }], guard := none }) (v := ?vb9) rfl (by kernel_rfl) (by kernel_rfl) (by kernel_rfl) (fun _ _ _ h => h) (Or.inl ⟨by rfl, ?hb9⟩) (by assumption) ?rb9
          case hb9 => (intro w0 hSw; (try dsimp only at hSw); go_simp; try (with_reducible rfl))
          simp only [Act.put, List.setIfInBounds_toArray, List.set_cons_zero, List.set_cons_succ]
          refine wpAnyH_done (by kernel_rfl) ?_ _
          have HQ := Hid.mk (HP.out.box HS.out.1.up)
          obtain ⟨wb, hwb⟩ : ∃ wb, wb = ws.alloc (.cells #[.slice ai i ci, .map (some mb), .slice (some ⟨ag, 0, none⟩) i i] 48) := ⟨_, rfl⟩
          rw [← hwb] at HQ ⊢
          obtain ⟨p, hpp⟩ : ∃ p, p = ws.heap.size := ⟨_, rfl⟩
          rw [← hpp] at HQ ⊢
          have c0 := HQ.out.cells.1
          clear hwb hpp HP HWY hHeld
          go_wp2
          go_loopw [49] (fun u wr => ∃ (k : Nat), u = .int .i64 k ∧ k ≤ i ∧ Hid (QP w wr p mb ag i (.slice ai i ci) S k)) (fun u _ => i - (intOf u).toNat)
          case atStart => exact ⟨0, rfl, Nat.zero_le _, HQ⟩
          case round =>
            obtain ⟨k, rfl, hki, HK⟩ := hrel
            clear HQ c0
            by_cases hk : k < i
            · have hk' : (k : Int) < (i : Int) := by omega
              have hkS : k < S.length := by rw [HS.out.2.1]; exact hk
              obtain ⟨g2, cap2, e2, z0, -⟩ := i_cell HK.out.row k hkS
              injection e2 with e21 e22 e23
              subst e21
              obtain ⟨wz, hwz⟩ : ∃ wz, wz = wr.drew := ⟨_, rfl⟩
              obtain ⟨v0, st, W1, W2, r1, r2, s1, s2, ⟨u, q1⟩, q2, N⟩ := HK.out.drew.step HS.out.1 HS.out.2.1 hkS
              obtain ⟨-, s01, s02⟩ := HK.out.drew.cells
              have s0 := And.intro s01 s02
              have s3 := N.cells.2
              rw [← hwz] at r1 s0
              have HN := Hid.mk N
              obtain ⟨x, hx⟩ : ∃ x, x = S[k] := ⟨_, rfl⟩
              rw [← hx] at r1 z0
              have wk : IntKind.i64.wrap ((k : Int) + 1) = ((k + 1 : Nat) : Int) := i64_in _ (by omega) (by omega)
              have HWZ := Hid.mk hwz
              clear hx hwz N HK e22 e23 hkS s01 s02
              go_wp2_with fail
              refine wp_region_held_drew (S := fun w' => w'.cell? ⟨p, 1, none⟩ = some (.map (some mb)) ∧ w'.cell? ⟨p, 2, none⟩ = some (.slice (some ⟨ag, 0, none⟩) i i)) (by kernel_rfl) ?_ (fun hHeld => ?_)
              · rw [HWZ.out] at s0; exact s0
              rw [← HWZ.out]
              refine wpAnyH_take (i := 0) (oi := { dst := some 54, op := Op.move (Operand.tmp 9), type := 24, pos := "union.go:30", after := #[], guard := none }) (v := ?vbz0) rfl (by kernel_rfl) (by kernel_rfl) (by kernel_rfl) (fun _ _ _ h => h) (Or.inl ⟨by rfl, ?hbz0⟩) (by assumption) ?rbz0
              case hbz0 => (intro w0 hSw; (try dsimp only at hSw); go_simp; try (with_reducible rfl))
              simp only [Act.put, List.setIfInBounds_toArray, List.set_cons_zero, List.set_cons_succ]
              refine wpAnyH_take (i := 1) (oi := { dst := some 55, op := Op.nilCheck (Operand.tmp 54), type := 0, pos := "union.go:30", after := #[{ on := 0, ground := Ground.data }], guard := none }) (v := ?vbz1) rfl (by kernel_rfl) (by kernel_rfl) (by kernel_rfl) (fun _ _ _ h => h) (Or.inl ⟨by rfl, ?hbz1⟩) (by assumption) ?rbz1
              case hbz1 => (intro w0 hSw; (try dsimp only at hSw); go_simp; try (with_reducible rfl))
              simp only [Act.put, List.setIfInBounds_toArray, List.set_cons_zero, List.set_cons_succ]
              refine wpAnyH_take (i := 2) (oi := { dst := some 56, op := Op.fieldAddr 48 (Operand.tmp 55) 1, type := 0, pos := "union.go:30", after := #[{ on := 1, ground := Ground.data }], guard := none }) (v := ?vbz2) rfl (by kernel_rfl) (by kernel_rfl) (by kernel_rfl) (fun _ _ _ h => h) (Or.inl ⟨by rfl, ?hbz2⟩) (by assumption) ?rbz2
              case hbz2 => (intro w0 hSw; (try dsimp only at hSw); go_simp; try (with_reducible rfl))
              simp only [Act.put, List.setIfInBounds_toArray, List.set_cons_zero, List.set_cons_succ]
              refine wpAnyH_take (i := 3) (oi := { dst := some 57, op := Op.load 41 (Operand.tmp 56), type := 41, pos := "union.go:30", after := #[{ on := 2, ground := Ground.data }], guard := none }) (v := ?vbz3) rfl (by kernel_rfl) (by kernel_rfl) (by kernel_rfl) (fun _ _ _ h => h) (Or.inl ⟨by rfl, ?hbz3⟩) (by assumption) ?rbz3
              case hbz3 => (intro w0 hSw; (try dsimp only at hSw); go_simp; try (with_reducible rfl))
              simp only [Act.put, List.setIfInBounds_toArray, List.set_cons_zero, List.set_cons_succ]
              refine wpAnyH_take (i := 4) (oi := { dst := some 58, op := Op.move (Operand.tmp 11), type := 3, pos := "union.go:30", after := #[], guard := none }) (v := ?vbz4) rfl (by kernel_rfl) (by kernel_rfl) (by kernel_rfl) (fun _ _ _ h => h) (Or.inl ⟨by rfl, ?hbz4⟩) (by assumption) ?rbz4
              case hbz4 => (intro w0 hSw; (try dsimp only at hSw); go_simp; try (with_reducible rfl))
              simp only [Act.put, List.setIfInBounds_toArray, List.set_cons_zero, List.set_cons_succ]
              refine wpAnyH_take (i := 5) (oi := { dst := some 59, op := Op.move (Operand.tmp 9), type := 24, pos := "union.go:30", after := #[], guard := none }) (v := ?vbz5) rfl (by kernel_rfl) (by kernel_rfl) (by kernel_rfl) (fun _ _ _ h => h) (Or.inl ⟨by rfl, ?hbz5⟩) (by assumption) ?rbz5
              case hbz5 => (intro w0 hSw; (try dsimp only at hSw); go_simp; try (with_reducible rfl))
              simp only [Act.put, List.setIfInBounds_toArray, List.set_cons_zero, List.set_cons_succ]
              refine wpAnyH_take (i := 6) (oi := { dst := some 60, op := Op.nilCheck (Operand.tmp 59), type := 0, pos := "union.go:30", after := #[{ on := 5, ground := Ground.data }], guard := none }) (v := ?vbz6) rfl (by kernel_rfl) (by kernel_rfl) (by kernel_rfl) (fun _ _ _ h => h) (Or.inl ⟨by rfl, ?hbz6⟩) (by assumption) ?rbz6
              case hbz6 => (intro w0 hSw; (try dsimp only at hSw); go_simp; try (with_reducible rfl))
              simp only [Act.put, List.setIfInBounds_toArray, List.set_cons_zero, List.set_cons_succ]
              refine wpAnyH_take (i := 7) (oi := { dst := some 61, op := Op.fieldAddr 48 (Operand.tmp 60) 2, type := 0, pos := "union.go:30", after := #[{ on := 6, ground := Ground.data }], guard := none }) (v := ?vbz7) rfl (by kernel_rfl) (by kernel_rfl) (by kernel_rfl) (fun _ _ _ h => h) (Or.inl ⟨by rfl, ?hbz7⟩) (by assumption) ?rbz7
              case hbz7 => (intro w0 hSw; (try dsimp only at hSw); go_simp; try (with_reducible rfl))
              simp only [Act.put, List.setIfInBounds_toArray, List.set_cons_zero, List.set_cons_succ]
              refine wpAnyH_take (i := 8) (oi := { dst := some 62, op := Op.load 22 (Operand.tmp 61), type := 22, pos := "union.go:30", after := #[{ on := 7, ground := Ground.data }], guard := none }) (v := ?vbz8) rfl (by kernel_rfl) (by kernel_rfl) (by kernel_rfl) (fun _ _ _ h => h) (Or.inl ⟨by rfl, ?hbz8⟩) (by assumption) ?rbz8
              case hbz8 => (intro w0 hSw; (try dsimp only at hSw); go_simp; try (with_reducible rfl))
              simp only [Act.put, List.setIfInBounds_toArray, List.set_cons_zero, List.set_cons_succ]
              refine wpAnyH_take (i := 9) (oi := { dst := some 63, op := Op.move (Operand.tmp 10), type := 3, pos := "union.go:30", after := #[{ on := 14, ground := Ground.gcOnly Departure.lateStores }], guard := none }) (v := ?vbz9) rfl (by kernel_rfl) (by kernel_rfl) (by kernel_rfl) (fun _ _ _ h => h) (Or.inl ⟨by rfl, ?hbz9⟩) (by assumption) ?rbz9
              case hbz9 => (intro w0 hSw; (try dsimp only at hSw); go_simp; try (with_reducible rfl))
              simp only [Act.put, List.setIfInBounds_toArray, List.set_cons_zero, List.set_cons_succ]
              refine wpAnyH_take (i := 10) (oi := { dst := some 64, op := Op.move (Operand.tmp 10), type := 3, pos := "union.go:30", after := #[{ on := 12, ground := Ground.gcOnly Departure.tupleMapEntryFirst }], guard := none }) (v := ?vbz10) rfl (by kernel_rfl) (by kernel_rfl) (by kernel_rfl) (fun _ _ _ h => h) (Or.inl ⟨by rfl, ?hbz10⟩) (by assumption) ?rbz10
              case hbz10 => (intro w0 hSw; (try dsimp only at hSw); go_simp; try (with_reducible rfl))
              simp only [Act.put, List.setIfInBounds_toArray, List.set_cons_zero, List.set_cons_succ]
              refine wpAnyH_take (i := 11) (oi := { dst := some 65, op := Op.move (Operand.tmp 10), type := 3, pos := "union.go:30", after := #[{ on := 14, ground := Ground.gcOnly Departure.lateStores }], guard := none }) (v := ?vbz11) rfl (by kernel_rfl) (by kernel_rfl) (by kernel_rfl) (fun _ _ _ h => h) (Or.inl ⟨by rfl, ?hbz11⟩) (by assumption) ?rbz11
              case hbz11 => (intro w0 hSw; (try dsimp only at hSw); go_simp; try (with_reducible rfl))
              simp only [Act.put, List.setIfInBounds_toArray, List.set_cons_zero, List.set_cons_succ]
              refine wpAnyH_ready (rs := [12]) (by kernel_rfl) (by simp) ?_
              refine AllReadyH.cons rfl (fun K hK => ?_) AllReadyH.nil
              rw [if_pos (by rfl)]
              refine oper_entry_eq _ _ _ rfl _ _ _ _ rfl rfl r1 ?_
              go_simp
              refine hK.out _ _ ?_ (fun hHeld => ?_)
              · exact s1
              clear hK K
              refine wpAnyH_take (i := 13) (oi := { dst := some 67, op := Op.extract (Operand.tmp 66) 1, type := 3, pos := "union.go:30", after := #[{ on := 12, ground := Ground.data }], guard := none }) (v := ?vbz13) rfl (by kernel_rfl) (by kernel_rfl) (by kernel_rfl) (fun _ _ _ h => h) (Or.inl ⟨by rfl, ?hbz13⟩) (by assumption) ?rbz13
              case hbz13 => (intro w0 hSw; (try dsimp only at hSw); go_simp; try (with_reducible rfl))
              simp only [Act.put, List.setIfInBounds_toArray, List.set_cons_zero, List.set_cons_succ]
              refine wpAnyH_ready (rs := [14]) (by kernel_rfl) (by simp) ?_
              refine AllReadyH.cons rfl (fun K hK => ?_) AllReadyH.nil
              rw [if_pos (by rfl)]
              refine oper_estore_eq _ _ _ _ rfl _ _ _ _ rfl rfl rfl r2 ?_
              go_simp
              refine hK.out _ _ ?_ (fun hHeld => ?_)
              · exact s2
              clear hK K
              refine wpAnyH_take (i := 15) (oi := { dst := some 68, op := Op.indexAddr 22 (Operand.tmp 62) (Operand.tmp 63), type := 0, pos := "union.go:30", after := #[{ on := 8, ground := Ground.data }, { on := 9, ground := Ground.data }, { on := 0, ground := Ground.phase }, { on := 1, ground := Ground.phase }, { on := 2, ground := Ground.phase }, { on := 3, ground := Ground.phase }, { on := 4, ground := Ground.phase }, { on := 5, ground := Ground.phase }, { on := 6, ground := Ground.phase }, { on := 7, ground := Ground.phase }, { on := 8, ground := Ground.phase }, { on := 9, ground := Ground.phase }, { on := 10, ground := Ground.phase }, { on := 11, ground := Ground.phase }, { on := 12, ground := Ground.phase }, { on := 13, ground := Ground.phase }, { on := 14, ground := Ground.phase }], guard := none }) (v := ?vbz15) rfl (by kernel_rfl) (by kernel_rfl) (by kernel_rfl) (fun _ _ _ h => h) (Or.inl ⟨by rfl, ?hbz15⟩) (by assumption) ?rbz15
              case hbz15 => (intro w0 hSw; (try dsimp only at hSw); go_simp; try (with_reducible rfl))
              simp only [Act.put, List.setIfInBounds_toArray, List.set_cons_zero, List.set_cons_succ]
              refine wpAnyH_ready (rs := [16]) (by kernel_rfl) (by simp) ?_
              refine AllReadyH.cons rfl (fun K hK => ?_) AllReadyH.nil
              go_simp
              go_wp2_with (fail)
              refine hK.out _ _ ?_ (fun hHeld => ?_)
              · exact s3
              clear hK K
              refine wpAnyH_done (by kernel_rfl) ?_ _
              go_wp2
              go_roundw
              case rel => exact ⟨k + 1, by go_num, by omega, HN⟩
              case measure => simp [intOf]; omega
            · have hk' : ¬ (k : Int) < (i : Int) := by omega
              have hke : k = i := by omega
              subst hke
              have HF := Hid.mk (QP.fin HK.out HS.out.1 HS.out.2.1 HS.out.2.2.1)
              go_wp2
              go_ret2
              exact HF.out
      · have hva := Hm.out.2.1.size
        rw [if_pos (by rfl)]
        obtain ⟨wm, hmk, hzr, bm, hsz⟩ := El.make iOk wy 0 rfl i (by omega)
        refine oper_make_eq _ _ _ rfl _ _ hmk ?_
        go_simp
        refine hK.out _ _ ?_ (fun hHeld => ?_)
        · exact trivial
        clear hK K
        clear hmk hsz
        have Hm : Hid (IM wm mb i (mE S) ∧ Below w.heap.size w wm ∧ iE.At wm la l ∧ (∀ a, la = some a → a.block < wm.heap.size) ∧ w.heap.size ≤ mb) := ⟨Hm.out.1.below bm, chain Hm.out.2.1 bm (Nat.le_refl _), Hm.out.2.2.1.below bm, fun a e => Nat.lt_of_lt_of_le (Hm.out.2.2.2.1 a e) bm.size, Hm.out.2.2.2.2⟩
        refine wpAnyH_ready (rs := [1]) (by kernel_rfl) (by simp) ?_
        refine AllReadyH.cons rfl (fun K hK => ?_) AllReadyH.nil
        go_simp
        go_at_call 15
        refine (values_any la i cap wm).mono ?_
        rintro e wv ⟨rfl, hwv⟩
        refine hK.out _ _ ?_ (fun hHeld => ?_)
        · exact trivial
        clear hK K
        have bv : Below wm.heap.size wm wv := by rw [hwv]; exact (Below.refl _ _).alloc (Nat.le_refl _) _
        have cv : wv.cell? ⟨wm.heap.size, 0, none⟩ = some (.slice la i cap) := by rw [hwv]; exact (Boxed.new _ _ _).cell
        have Hm : Hid (IM wv mb i (mE S) ∧ Below w.heap.size w wv ∧ iE.At wv la l ∧ (∀ a, la = some a → a.block < wv.heap.size) ∧ w.heap.size ≤ mb) := ⟨Hm.out.1.below bv, chain Hm.out.2.1 bv (Nat.le_refl _), Hm.out.2.2.1.below bv, fun a e => Nat.lt_of_lt_of_le (Hm.out.2.2.2.1 a e) bv.size, Hm.out.2.2.2.2⟩
        clear hwv
        have hzr := El.Row.below hzr bv
        refine wpAnyH_ready (rs := [2]) (by kernel_rfl) (by simp) ?_
        refine AllReadyH.cons rfl (fun K hK => ?_) AllReadyH.nil
        have hs := sorted_any wm.heap.size i la cap l wv cv HA.out.2.1 Hm.out.2.2.1 Hm.out.2.2.2.1 hl
        rw [HS.out.2.2.2] at hs
        go_simp
        go_at_call 14
        refine hs.mono ?_
        rintro e ws ⟨iv, rfl, hrow, hown, hbs⟩
        refine hK.out _ _ ?_ (fun hHeld => ?_)
        · exact trivial
        clear hK K
        clear hs
        have HP := Hid.mk (P12.b (ag := wy.heap.size) (n := i) Hm.out.1 hl hrow hown Hm.out.2.2.2.2 hva Hm.out.2.1 hzr hbs)
        obtain ⟨ag, hag⟩ : ∃ ag, ag = wy.heap.size := ⟨_, rfl⟩
        rw [← hag] at HP ⊢
        obtain ⟨ai, ci, hiv, -⟩ := HP.out.row.form
        rw [HS.out.2.1] at hiv
        subst hiv
        clear hag Hm hrow hown hbs hzr bm bv cv
        refine wpAnyH_take (i := 7) (oi := { dst := some 42, op := Op.build 48 #[(0, Operand.tmp 37), (1, Operand.tmp 38), (2, Operand.tmp 41)], type := 48, pos := "union.go:28", after := #[{ on := 2, ground := Ground.data }, { on := 3, ground := Ground.data }, { on := 6, ground := Ground.data }], guard := none }) (v := ?vc7) rfl (by kernel_rfl) (by kernel_rfl) (by kernel_rfl) (fun _ _ _ h => h) (Or.inl ⟨by rfl, ?hc7⟩) (by assumption) ?rc7
        case hc7 => (intro w0 hSw; (try dsimp only at hSw); go_simp; try (with_reducible rfl))
        simp only [Act.put, List.setIfInBounds_toArray, List.set_cons_zero, List.set_cons_succ]
        refine wpAnyH_ready (rs := [8]) (by kernel_rfl) (by simp) ?_
        refine AllReadyH.cons rfl (fun K hK => ?_) AllReadyH.nil
        go_simp
        go_wp2_with (fail)
        refine hK.out _ _ ?_ (fun hHeld => ?_)
        · exact trivial
        clear hK K
        refine wpAnyH_take (i := 9) (oi := { dst := some 9, op := Op.assign (Operand.tmp 43), type := 24, pos := "union.go:28", after := #[{ on := 8, ground := Ground.data }, { on := 2, ground := Ground.chain }, { on := 0, ground := Ground.phase }, { on := 1, ground := Ground.phase }, { on := 2, ground := Ground.phase }, { on := 3, ground := Ground.phase }, { on := 4, ground := Ground.phase }, { on := 5, ground := Ground.phase }, { on := 6, ground := Ground.phase }, { on := 7, ground := Ground.phase }, { on := 8, ground := Ground.phase }], guard := none }) (v := ?vc9) rfl (by kernel_rfl) (by kernel_rfl) (by kernel_rfl) (fun _ _ _ h => h) (Or.inl ⟨by rfl, ?hc9⟩) (by assumption) ?rc9
        case hc9 => (intro w0 hSw; (try dsimp only at hSw); go_simp; try (with_reducible rfl))
        simp only [Act.put, List.setIfInBounds_toArray, List.set_cons_zero, List.set_cons_succ]
        refine wpAnyH_done (by kernel_rfl) ?_ _
        have HQ := Hid.mk (HP.out.box HS.out.1.up)
        obtain ⟨wb, hwb⟩ : ∃ wb, wb = ws.alloc (.cells #[.slice ai i ci, .map (some mb), .slice (some ⟨ag, 0, none⟩) i i] 48) := ⟨_, rfl⟩
        rw [← hwb] at HQ ⊢
        obtain ⟨p, hpp⟩ : ∃ p, p = ws.heap.size := ⟨_, rfl⟩
        rw [← hpp] at HQ ⊢
        have c0 := HQ.out.cells.1
        clear hwb hpp HP HWY hHeld
        go_wp2
        go_loopw [49] (fun u wr => ∃ (k : Nat), u = .int .i64 k ∧ k ≤ i ∧ Hid (QP w wr p mb ag i (.slice ai i ci) S k)) (fun u _ => i - (intOf u).toNat)
        case atStart => exact ⟨0, rfl, Nat.zero_le _, HQ⟩
        case round =>
          obtain ⟨k, rfl, hki, HK⟩ := hrel
          clear HQ c0
          by_cases hk : k < i
          · have hk' : (k : Int) < (i : Int) := by omega
            have hkS : k < S.length := by rw [HS.out.2.1]; exact hk
            obtain ⟨g2, cap2, e2, z0, -⟩ := i_cell HK.out.row k hkS
            injection e2 with e21 e22 e23
            subst e21
            obtain ⟨wz, hwz⟩ : ∃ wz, wz = wr.drew := ⟨_, rfl⟩
            obtain ⟨v0, st, W1, W2, r1, r2, s1, s2, ⟨u, q1⟩, q2, N⟩ := HK.out.drew.step HS.out.1 HS.out.2.1 hkS
            obtain ⟨-, s01, s02⟩ := HK.out.drew.cells
            have s0 := And.intro s01 s02
            have s3 := N.cells.2
            rw [← hwz] at r1 s0
            have HN := Hid.mk N
            obtain ⟨x, hx⟩ : ∃ x, x = S[k] := ⟨_, rfl⟩
            rw [← hx] at r1 z0
            have wk : IntKind.i64.wrap ((k : Int) + 1) = ((k + 1 : Nat) : Int) := i64_in _ (by omega) (by omega)
            have HWZ := Hid.mk hwz
            clear hx hwz N HK e22 e23 hkS s01 s02
            go_wp2_with fail
            refine wp_region_held_drew (S := fun w' => w'.cell? ⟨p, 1, none⟩ = some (.map (some mb)) ∧ w'.cell? ⟨p, 2, none⟩ = some (.slice (some ⟨ag, 0, none⟩) i i)) (by kernel_rfl) ?_ (fun hHeld => ?_)
            · rw [HWZ.out] at s0; exact s0
            rw [← HWZ.out]
            refine wpAnyH_take (i := 0) (oi := { dst := some 54, op := Op.move (Operand.tmp 9), type := 24, pos := "union.go:30", after := #[], guard := none }) (v := ?vcz0) rfl (by kernel_rfl) (by kernel_rfl) (by kernel_rfl) (fun _ _ _ h => h) (Or.inl ⟨by rfl, ?hcz0⟩) (by assumption) ?rcz0
            case hcz0 => (intro w0 hSw; (try dsimp only at hSw); go_simp; try (with_reducible rfl))
            simp only [Act.put, List.setIfInBounds_toArray, List.set_cons_zero, List.set_cons_succ]
            refine wpAnyH_take (i := 1) (oi := { dst := some 55, op := Op.nilCheck (Operand.tmp 54), type := 0, pos := "union.go:30", after := #[{ on := 0, ground := Ground.data }], guard := none }) (v := ?vcz1) rfl (by kernel_rfl) (by kernel_rfl) (by kernel_rfl) (fun _ _ _ h => h) (Or.inl ⟨by rfl, ?hcz1⟩) (by assumption) ?rcz1
            case hcz1 => (intro w0 hSw; (try dsimp only at hSw); go_simp; try (with_reducible rfl))
            simp only [Act.put, List.setIfInBounds_toArray, List.set_cons_zero, List.set_cons_succ]
            refine wpAnyH_take (i := 2) (oi := { dst := some 56, op := Op.fieldAddr 48 (Operand.tmp 55) 1, type := 0, pos := "union.go:30", after := #[{ on := 1, ground := Ground.data }], guard := none }) (v := ?vcz2) rfl (by kernel_rfl) (by kernel_rfl) (by kernel_rfl) (fun _ _ _ h => h) (Or.inl ⟨by rfl, ?hcz2⟩) (by assumption) ?rcz2
            case hcz2 => (intro w0 hSw; (try dsimp only at hSw); go_simp; try (with_reducible rfl))
            simp only [Act.put, List.setIfInBounds_toArray, List.set_cons_zero, List.set_cons_succ]
            refine wpAnyH_take (i := 3) (oi := { dst := some 57, op := Op.load 41 (Operand.tmp 56), type := 41, pos := "union.go:30", after := #[{ on := 2, ground := Ground.data }], guard := none }) (v := ?vcz3) rfl (by kernel_rfl) (by kernel_rfl) (by kernel_rfl) (fun _ _ _ h => h) (Or.inl ⟨by rfl, ?hcz3⟩) (by assumption) ?rcz3
            case hcz3 => (intro w0 hSw; (try dsimp only at hSw); go_simp; try (with_reducible rfl))
            simp only [Act.put, List.setIfInBounds_toArray, List.set_cons_zero, List.set_cons_succ]
            refine wpAnyH_take (i := 4) (oi := { dst := some 58, op := Op.move (Operand.tmp 11), type := 3, pos := "union.go:30", after := #[], guard := none }) (v := ?vcz4) rfl (by kernel_rfl) (by kernel_rfl) (by kernel_rfl) (fun _ _ _ h => h) (Or.inl ⟨by rfl, ?hcz4⟩) (by assumption) ?rcz4
            case hcz4 => (intro w0 hSw; (try dsimp only at hSw); go_simp; try (with_reducible rfl))
            simp only [Act.put, List.setIfInBounds_toArray, List.set_cons_zero, List.set_cons_succ]
            refine wpAnyH_take (i := 5) (oi := { dst := some 59, op := Op.move (Operand.tmp 9), type := 24, pos := "union.go:30", after := #[], guard := none }) (v := ?vcz5) rfl (by kernel_rfl) (by kernel_rfl) (by kernel_rfl) (fun _ _ _ h => h) (Or.inl ⟨by rfl, ?hcz5⟩) (by assumption) ?rcz5
            case hcz5 => (intro w0 hSw; (try dsimp only at hSw); go_simp; try (with_reducible rfl))
            simp only [Act.put, List.setIfInBounds_toArray, List.set_cons_zero, List.set_cons_succ]
            refine wpAnyH_take (i := 6) (oi := { dst := some 60, op := Op.nilCheck (Operand.tmp 59), type := 0, pos := "union.go:30", after := #[{ on := 5, ground := Ground.data }], guard := none }) (v := ?vcz6) rfl (by kernel_rfl) (by kernel_rfl) (by kernel_rfl) (fun _ _ _ h => h) (Or.inl ⟨by rfl, ?hcz6⟩) (by assumption) ?rcz6
            case hcz6 => (intro w0 hSw; (try dsimp only at hSw); go_simp; try (with_reducible rfl))
            simp only [Act.put, List.setIfInBounds_toArray, List.set_cons_zero, List.set_cons_succ]
            refine wpAnyH_take (i := 7) (oi := { dst := some 61, op := Op.fieldAddr 48 (Operand.tmp 60) 2, type := 0, pos := "union.go:30", after := #[{ on := 6, ground := Ground.data }], guard := none }) (v := ?vcz7) rfl (by kernel_rfl) (by kernel_rfl) (by kernel_rfl) (fun _ _ _ h => h) (Or.inl ⟨by rfl, ?hcz7⟩) (by assumption) ?rcz7
            case hcz7 => (intro w0 hSw; (try dsimp only at hSw); go_simp; try (with_reducible rfl))
            simp only [Act.put, List.setIfInBounds_toArray, List.set_cons_zero, List.set_cons_succ]
            refine wpAnyH_take (i := 8) (oi := { dst := some 62, op := Op.load 22 (Operand.tmp 61), type := 22, pos := "union.go:30", after := #[{ on := 7, ground := Ground.data }], guard := none }) (v := ?vcz8) rfl (by kernel_rfl) (by kernel_rfl) (by kernel_rfl) (fun _ _ _ h => h) (Or.inl ⟨by rfl, ?hcz8⟩) (by assumption) ?rcz8
            case hcz8 => (intro w0 hSw; (try dsimp only at hSw); go_simp; try (with_reducible rfl))
            simp only [Act.put, List.setIfInBounds_toArray, List.set_cons_zero, List.set_cons_succ]
            refine wpAnyH_take (i := 9) (oi := { dst := some 63, op := Op.move (Operand.tmp 10), type := 3, pos := "union.go:30", after := #[{ on := 14, ground := Ground.gcOnly Departure.lateStores }], guard := none }) (v := ?vcz9) rfl (by kernel_rfl) (by kernel_rfl) (by kernel_rfl) (fun _ _ _ h => h) (Or.inl ⟨by rfl, ?hcz9⟩) (by assumption) ?rcz9
            case hcz9 => (intro w0 hSw; (try dsimp only at hSw); go_simp; try (with_reducible rfl))
            simp only [Act.put, List.setIfInBounds_toArray, List.set_cons_zero, List.set_cons_succ]
            refine wpAnyH_take (i := 10) (oi := { dst := some 64, op := Op.move (Operand.tmp 10), type := 3, pos := "union.go:30", after := #[{ on := 12, ground := Ground.gcOnly Departure.tupleMapEntryFirst }], guard := none }) (v := ?vcz10) rfl (by kernel_rfl) (by kernel_rfl) (by kernel_rfl) (fun _ _ _ h => h) (Or.inl ⟨by rfl, ?hcz10⟩) (by assumption) ?rcz10
            case hcz10 => (intro w0 hSw; (try dsimp only at hSw); go_simp; try (with_reducible rfl))
            simp only [Act.put, List.setIfInBounds_toArray, List.set_cons_zero, List.set_cons_succ]
            refine wpAnyH_take (i := 11) (oi := { dst := some 65, op := Op.move (Operand.tmp 10), type := 3, pos := "union.go:30", after := #[{ on := 14, ground := Ground.gcOnly Departure.lateStores }], guard := none }) (v := ?vcz11) rfl (by kernel_rfl) (by kernel_rfl) (by kernel_rfl) (fun _ _ _ h => h) (Or.inl ⟨by rfl, ?hcz11⟩) (by assumption) ?rcz11
            case hcz11 => (intro w0 hSw; (try dsimp only at hSw); go_simp; try (with_reducible rfl))
            simp only [Act.put, List.setIfInBounds_toArray, List.set_cons_zero, List.set_cons_succ]
            refine wpAnyH_ready (rs := [12]) (by kernel_rfl) (by simp) ?_
            refine AllReadyH.cons rfl (fun K hK => ?_) AllReadyH.nil
            rw [if_pos (by rfl)]
            refine oper_entry_eq _ _ _ rfl _ _ _ _ rfl rfl r1 ?_
            go_simp
            refine hK.out _ _ ?_ (fun hHeld => ?_)
            · exact s1
            clear hK K
            refine wpAnyH_take (i := 13) (oi := { dst := some 67, op := Op.extract (Operand.tmp 66) 1, type := 3, pos := "union.go:30", after := #[{ on := 12, ground := Ground.data }], guard := none }) (v := ?vcz13) rfl (by kernel_rfl) (by kernel_rfl) (by kernel_rfl) (fun _ _ _ h => h) (Or.inl ⟨by rfl, ?hcz13⟩) (by assumption) ?rcz13
            case hcz13 => (intro w0 hSw; (try dsimp only at hSw); go_simp; try (with_reducible rfl))
            simp only [Act.put, List.setIfInBounds_toArray, List.set_cons_zero, List.set_cons_succ]
            refine wpAnyH_ready (rs := [14]) (by kernel_rfl) (by simp) ?_
            refine AllReadyH.cons rfl (fun K hK => ?_) AllReadyH.nil
            rw [if_pos (by rfl)]
            refine oper_estore_eq _ _ _ _ rfl _ _ _ _ rfl rfl rfl r2 ?_
            go_simp
            refine hK.out _ _ ?_ (fun hHeld => ?_)
            · exact s2
            clear hK K
            refine wpAnyH_take (i := 15) (oi := { dst := some 68, op := Op.indexAddr 22 (Operand.tmp 62) (Operand.tmp 63), type := 0, pos := "union.go:30", after := #[{ on := 8, ground := Ground.data }, { on := 9, ground := Ground.data }, { on := 0, ground := Ground.phase }, { on := 1, ground := Ground.phase }, { on := 2, ground := Ground.phase }, { on := 3, ground := Ground.phase }, { on := 4, ground := Ground.phase }, { on := 5, ground := Ground.phase }, { on := 6, ground := Ground.phase }, { on := 7, ground := Ground.phase }, { on := 8, ground := Ground.phase }, { on := 9, ground := Ground.phase }, { on := 10, ground := Ground.phase }, { on := 11, ground := Ground.phase }, { on := 12, ground := Ground.phase }, { on := 13, ground := Ground.phase }, { on := 14, ground := Ground.phase }], guard := none }) (v := ?vcz15) rfl (by kernel_rfl) (by kernel_rfl) (by kernel_rfl) (fun _ _ _ h => h) (Or.inl ⟨by rfl, ?hcz15⟩) (by assumption) ?rcz15
            case hcz15 => (intro w0 hSw; (try dsimp only at hSw); go_simp; try (with_reducible rfl))
            simp only [Act.put, List.setIfInBounds_toArray, List.set_cons_zero, List.set_cons_succ]
            refine wpAnyH_ready (rs := [16]) (by kernel_rfl) (by simp) ?_
            refine AllReadyH.cons rfl (fun K hK => ?_) AllReadyH.nil
            go_simp
            go_wp2_with (fail)
            refine hK.out _ _ ?_ (fun hHeld => ?_)
            · exact s3
            clear hK K
            refine wpAnyH_done (by kernel_rfl) ?_ _
            go_wp2
            go_roundw
            case rel => exact ⟨k + 1, by go_num, by omega, HN⟩
            case measure => simp [intOf]; omega
          · have hk' : ¬ (k : Int) < (i : Int) := by omega
            have hke : k = i := by omega
            subst hke
            have HF := Hid.mk (QP.fin HK.out HS.out.1 HS.out.2.1 HS.out.2.2.1)
            go_wp2
            go_ret2
            exact HF.out
end Go.Proofs.Ytmhifofeobhhgaa
