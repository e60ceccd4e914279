/-
  DERIVED. The law of the names: new memory, the document's own.
-/
import Derived.Test.YtnmhpbgiljchkaaDoorRRef
set_option linter.unusedVariables false
set_option linter.unusedSimpArgs false
namespace Go.Proofs.YtnmhpbgiljchkaaDoor
open Go.RowKit Go.Proofs.BitMath
theorem strAt {w : World} {la : Option Addr} {l : List ByteArray} (h : ES.At w la l) (i : Nat) (hi : i < l.length) : ∃ g off, la = some ⟨g, off, none⟩ ∧ w.cell? ⟨g, off + i, none⟩ = some (.string l[i]) := by
  obtain ⟨g, off, e, h1⟩ := h.at' (fun e => by subst e; simp at hi)
  refine ⟨g, off, e, h1 i _ ?_⟩
  have := flat_at ES.f 1 (fun _ => rfl) l i 0 hi (by decide)
  simpa using this
set_option maxHeartbeats 1000000 in
set_option maxRecDepth 100000 in
theorem texts_any (l : List ByteArray) (la lb : Option Addr) (ca cb : Nat) (w : World) (ha : ES.At w la l) (hb : ES.At w lb l) (hl : l.length ≤ 128) :
    Calls Tryd.prog 6 #[.slice la l.length ca, .slice lb l.length cb] w fun e w' => e = .returned (.bool true) ∧ Below w.heap.size w w' := by
  obtain ⟨n, hn⟩ : ∃ n, n = l.length := ⟨_, rfl⟩
  have HA := Hid.mk (And.intro ha (And.intro hb hn))
  rw [← hn] at hl ⊢
  clear ha hb hn
  go_enter Tryd.func6, Tryd.ntmps6
  go_wp2
  go_loopw [5] (fun u wr => ∃ i : Nat, u = .int .i64 i ∧ i ≤ n ∧ Drew w wr) (fun u _ => n - (intOf u).toNat)
  case atStart => exact ⟨0, rfl, Nat.zero_le _, Drew.refl _⟩
  case round =>
    obtain ⟨i, rfl, hi, hd⟩ := hrel
    by_cases hlt : i < n
    · have i1 : (i : Int) < (n : Int) := by omega
      have i2 : (0 : Int) ≤ (i : Int) := by omega
      have hil : i < l.length := by have := HA.out.2.2; omega
      obtain ⟨g1, o1, e1, x0⟩ := strAt (HA.out.1.below (hd.below _)) i hil
      obtain ⟨g2, o2, e2, y0⟩ := strAt (HA.out.2.1.below (hd.below _)) i hil
      subst e1
      subst e2
      obtain ⟨x, hx⟩ : ∃ x, x = l[i] := ⟨_, rfl⟩
      rw [← hx] at x0 y0
      have hwi : IntKind.i64.wrap ((i : Int) + 1) = ((i + 1 : Nat) : Int) := by rw [IntKind.wrap_i64]; omega
      have HD := Hid.mk hd
      clear hx hd
      go_wp2
      go_region
      all_goals
        go_wp2
        exact ⟨⟨i + 1, rfl, hlt, HD.out.drew⟩, by simp only [intOf]; omega⟩
    · have i1 : ¬ (i : Int) < (n : Int) := by omega
      go_wp2
      go_ret
      exact ⟨rfl, hd.below _⟩
/-- Two lists of the call's own are the same. -/
theorem texts_rows (l : List ByteArray) (a b : Value) (w : World) (ha : ES.Row w a l) (hb : ES.Row w b l) (hl : l.length ≤ 128) : Calls Tryd.prog 6 #[a, b] w fun e w' => e = .returned (.bool true) ∧ Below w.heap.size w w' := by
  obtain ⟨a1, c1, rfl, h1⟩ := ha.lat
  obtain ⟨a2, c2, rfl, h2⟩ := hb.lat
  exact texts_any l a1 a2 c1 c2 w h1 h2 hl
theorem nmL_len (n W C M : Int) : (nmL n W C M).length ≤ 128 := by unfold nmL; rw [List.length_map]; exact tbL_len n W C M
/-- The lists beside the one that is written over. -/
structure LS (B : Nat) (W : World) (sv : Value) (N O : List ByteArray) (cv pv qv zv wv ov : Value) : Prop where
  c : ES.Row W cv N
  p : ES.Row W pv O
  q : ES.Row W qv O
  z : ES.Row W zv N
  w : ES.Row W wv N
  o : ES.Row W ov O
  ap : ∀ x, x = cv ∨ x = pv ∨ x = qv ∨ x = zv ∨ x = wv ∨ x = ov → ∀ k, x.ownBlock = some k → k < B ∧ sv.ownBlock ≠ some k
theorem LS.kept {B : Nat} {W W' : World} {sv : Value} {N O : List ByteArray} {cv pv qv zv wv ov : Value} (h : LS B W sv N O cv pv qv zv wv ov) (s : Stay (fun k => sv.ownBlock = some k ∨ B ≤ k) W W') : LS B W' sv N O cv pv qv zv wv ov := by
  have key : ∀ x, x = cv ∨ x = pv ∨ x = qv ∨ x = zv ∨ x = wv ∨ x = ov → ∀ k, x.ownBlock = some k → ¬ (sv.ownBlock = some k ∨ B ≤ k) := fun x hx k hk e => by
    obtain ⟨h1, h2⟩ := h.ap x hx k hk
    rcases e with e | e
    · exact h2 e
    · omega
  exact ⟨row_kept h.c s (key _ (by simp)), row_kept h.p s (key _ (by simp)), row_kept h.q s (key _ (by simp)), row_kept h.z s (key _ (by simp)), row_kept h.w s (key _ (by simp)), row_kept h.o s (key _ (by simp)), h.ap⟩
theorem LS.below {B : Nat} {W W' : World} {sv : Value} {N O : List ByteArray} {cv pv qv zv wv ov : Value} (h : LS B W sv N O cv pv qv zv wv ov) (b : Below W.heap.size W W') : LS B W' sv N O cv pv qv zv wv ov := h.kept (.below b)
abbrev markS : ByteArray := ⟨#[109, 97, 114, 107]⟩
/-- The first j are marked. -/
def mkJ (N : List ByteArray) (j : Nat) : List ByteArray := List.replicate j markS ++ N.drop j
theorem mkJ_zero (N : List ByteArray) : mkJ N 0 = N := by simp [mkJ]
theorem mkJ_len (N : List ByteArray) (j : Nat) (h : j ≤ N.length) : (mkJ N j).length = N.length := by simp [mkJ]; omega
theorem mkJ_set (N : List ByteArray) (j : Nat) (h : j < N.length) : (mkJ N j).set j markS = mkJ N (j + 1) := by
  unfold mkJ
  rw [List.set_append_right _ _ (by simp), List.length_replicate, Nat.sub_self, List.drop_eq_getElem_cons h, List.set_cons_zero, List.replicate_succ', List.append_assoc]
  rfl
theorem mkJ_all (N : List ByteArray) : mkJ N N.length = List.replicate N.length markS := by simp [mkJ]
structure BX (W : World) (b : Nat) (Wd C M : Int) : Prop where
  o0 : W.cell? ⟨b, 0, none⟩ = some (.int .i64 Wd)
  o1 : W.cell? ⟨b, 1, none⟩ = some (.int .i64 C)
  o2 : W.cell? ⟨b, 2, none⟩ = some (.int .i64 M)
  x0 : W.cell? ⟨b + 1, 0, none⟩ = some (.int .i64 64)
  x1 : W.cell? ⟨b + 1, 1, none⟩ = some (.int .i64 8)
  x2 : W.cell? ⟨b + 1, 2, none⟩ = some (.int .i64 1)
theorem BX.lat {W W' : World} {b : Nat} {Wd C M : Int} (h : BX W b Wd C M) (k : Below W.heap.size W W') : BX W' b Wd C M := ⟨cell_lat k h.o0, cell_lat k h.o1, cell_lat k h.o2, cell_lat k h.x0, cell_lat k h.x1, cell_lat k h.x2⟩
theorem stay_all {w WA w7 W' : World} {b : Nat} {Wd C M : Int} {lv : Value} (h : Below WA.heap.size WA w7 ∧ BX WA b Wd C M ∧ ∀ k, lv.ownBlock = some k → WA.heap.size ≤ k) (hw : Below w.heap.size w WA) (s : Stay (fun k => lv.ownBlock = some k ∨ w7.heap.size ≤ k) w7 W') : Below w.heap.size w W' ∧ BX W' b Wd C M := by
  have h7 := h.1.size
  have k : Below WA.heap.size WA W' := h.1.trans (s.toBelow (fun k hk e => by
    rcases e with e | e
    · have := h.2.2 k e; omega
    · omega) h7)
  exact ⟨chain hw k (Nat.le_refl _), h.2.1.lat k⟩
set_option maxHeartbeats 4000000 in
set_option maxRecDepth 100000 in
theorem law_files (n W C M : Int) (w : World) (ht : Pow w) : Calls Tryd.prog 3 #[.int .i64 n, optV W C M] w fun e w' => e = .returned (.bool true) ∧ Below w.heap.size w w' := by
  have c1 := fun w h => names_any n W C M w h
  have c2 := fun w h => names_any 7 64 8 1 w h
  have c3 := fun w h => rnames_any n W C M w h
  have c4 := fun w h => rnames_any 7 64 8 1 w h
  have hN := nmL_len n W C M
  have hO := nmL_len 7 64 8 1
  obtain ⟨N, hN2⟩ : ∃ N, N = nmL n W C M := ⟨_, rfl⟩
  obtain ⟨O, hO2⟩ : ∃ O, O = nmL 7 64 8 1 := ⟨_, rfl⟩
  rw [← hN2] at c1 c3 hN
  rw [← hO2] at c2 c4 hO
  clear hN2 hO2
  have HT := Hid.mk ht
  clear ht
  go_enter Tryd.func3, Tryd.ntmps3
  go_wp2_with fail
  obtain ⟨WA, hWA⟩ : ∃ WA, WA = (w.alloc (.cells #[.int .i64 W, .int .i64 C, .int .i64 M] 23)).alloc (.cells #[.int .i64 64, .int .i64 8, .int .i64 1] 23) := ⟨_, rfl⟩
  have hb0 : Below w.heap.size w WA := by rw [hWA]; exact ((Below.refl _ _).alloc (Nat.le_refl _) _).alloc (by simp) _
  have bx0 : BX WA w.heap.size W C M := by rw [hWA]; exact ⟨by go_simp, by go_simp, by go_simp, by go_simp, by go_simp, by go_simp⟩
  have HP := Hid.mk (HT.out.lat hb0)
  rw [← hWA]
  have HW := Hid.mk hb0
  clear hWA hb0
  refine (c1 WA HP.out).mono ?_
  rintro e w1 ⟨lv, rfl, hl, al, b1⟩
  obtain ⟨o0, o1, o2, x0, x1, x2⟩ := bx0.lat b1
  go_wp2_with fail
  refine (c1 w1 (HP.out.lat b1)).mono ?_
  rintro e w2 ⟨cv, rfl, hc, ac, b2⟩
  have b12 := chain b1 b2 (Nat.le_refl _)
  clear o0 o1 o2 x0 x1 x2
  obtain ⟨o0, o1, o2, x0, x1, x2⟩ := bx0.lat b12
  go_wp2_with fail
  refine (c2 w2 (HP.out.lat b12)).mono ?_
  rintro e w3 ⟨pv, rfl, hp, ap, b3⟩
  have b13 := chain b12 b3 (Nat.le_refl _)
  clear o0 o1 o2 x0 x1 x2
  obtain ⟨o0, o1, o2, x0, x1, x2⟩ := bx0.lat b13
  go_wp2_with fail
  refine (c2 w3 (HP.out.lat b13)).mono ?_
  rintro e w4 ⟨qv, rfl, hq, aq, b4⟩
  have b14 := chain b13 b4 (Nat.le_refl _)
  clear o0 o1 o2 x0 x1 x2
  obtain ⟨o0, o1, o2, x0, x1, x2⟩ := bx0.lat b14
  go_wp2_with fail
  refine (c1 w4 (HP.out.lat b14)).mono ?_
  rintro e w5 ⟨zv, rfl, hz, az, b5⟩
  have b15 := chain b14 b5 (Nat.le_refl _)
  clear o0 o1 o2 x0 x1 x2
  obtain ⟨o0, o1, o2, x0, x1, x2⟩ := bx0.lat b15
  go_wp2_with fail
  refine (c3 w5 (HP.out.lat b15)).mono ?_
  rintro e w6 ⟨wv, rfl, hw, aw, b6⟩
  have b16 := chain b15 b6 (Nat.le_refl _)
  clear o0 o1 o2 x0 x1 x2
  obtain ⟨o0, o1, o2, x0, x1, x2⟩ := bx0.lat b16
  go_wp2_with fail
  refine (c4 w6 (HP.out.lat b16)).mono ?_
  rintro e w7 ⟨ov, rfl, ho, ao, b7⟩
  have b17 := chain b16 b7 (Nat.le_refl _)
  clear o0 o1 o2 x0 x1 x2
  obtain ⟨o0, o1, o2, x0, x1, x2⟩ := bx0.lat b17
  have hl7 := El.Row.below hl (chain (chain (chain (chain (chain b2 b3 (Nat.le_refl _)) b4 (Nat.le_refl _)) b5 (Nat.le_refl _)) b6 (Nat.le_refl _)) b7 (Nat.le_refl _))
  have ls7 : LS w7.heap.size w7 lv N O cv pv qv zv wv ov := by
    have k37 := chain (chain (chain (chain b3 b4 (Nat.le_refl _)) b5 (Nat.le_refl _)) b6 (Nat.le_refl _)) b7 (Nat.le_refl _)
    have k47 := chain (chain (chain b4 b5 (Nat.le_refl _)) b6 (Nat.le_refl _)) b7 (Nat.le_refl _)
    have k57 := chain (chain b5 b6 (Nat.le_refl _)) b7 (Nat.le_refl _)
    have k67 := chain b6 b7 (Nat.le_refl _)
    refine ⟨El.Row.below hc k37, El.Row.below hp k47, El.Row.below hq k57, El.Row.below hz k67, El.Row.below hw b7, ho, ?_⟩
    have s2 := b2.size
    have s3 := b3.size
    have s4 := b4.size
    have s5 := b5.size
    have s6 := b6.size
    have s7 := b7.size
    rintro x (rfl | rfl | rfl | rfl | rfl | rfl) k hk
    · exact ⟨row_lt (El.Row.below hc k37) hk, fun e => by have := row_lt hl e; have := ac k hk; omega⟩
    · exact ⟨row_lt (El.Row.below hp k47) hk, fun e => by have := row_lt hl e; have := ap k hk; omega⟩
    · exact ⟨row_lt (El.Row.below hq k57) hk, fun e => by have := row_lt hl e; have := aq k hk; omega⟩
    · exact ⟨row_lt (El.Row.below hz k67) hk, fun e => by have := row_lt hl e; have := az k hk; omega⟩
    · exact ⟨row_lt (El.Row.below hw b7) hk, fun e => by have := row_lt hl e; have := aw k hk; omega⟩
    · exact ⟨row_lt ho hk, fun e => by have := row_lt hl e; have := ao k hk; omega⟩
  have al2 : ∀ k, lv.ownBlock = some k → WA.heap.size ≤ k := al
  have HB := Hid.mk (And.intro b17 (And.intro bx0 al2))
  have HL := Hid.mk ls7
  have HR := Hid.mk hl7
  clear hl hc hp hq hz hw ho al ac ap aq az aw ao b1 b2 b3 b4 b5 b6 b7 b12 b13 b14 b15 b16 b17 bx0 ls7 hl7 al2
  obtain ⟨la, lc, rfl, -⟩ := El.Row.form HR.out
  go_wp2_with fail
  refine (texts_rows N _ _ _ HR.out HL.out.w hN).mono ?_
  rintro e w8 ⟨rfl, b8⟩
  have e8 := b8
  go_wp2_with fail
  refine (texts_rows N _ _ _ (HL.out.below e8).c (HL.out.below e8).w hN).mono ?_
  rintro e w9 ⟨rfl, b9⟩
  have e9 := chain e8 b9 (Nat.le_refl _)
  go_wp2_with fail
  refine (texts_rows O _ _ _ (HL.out.below e9).p (HL.out.below e9).o hO).mono ?_
  rintro e w10 ⟨rfl, b10⟩
  have e10 := chain e9 b10 (Nat.le_refl _)
  go_wp2_with fail
  refine (texts_rows O _ _ _ (HL.out.below e10).q (HL.out.below e10).o hO).mono ?_
  rintro e w11 ⟨rfl, b11⟩
  have e11 := chain e10 b11 (Nat.le_refl _)
  go_wp2_with fail
  refine (texts_rows N _ _ _ (HL.out.below e11).z (HL.out.below e11).w hN).mono ?_
  rintro e w12 ⟨rfl, b12⟩
  have e12 := chain e11 b12 (Nat.le_refl _)
  have H12 := Hid.mk (And.intro (El.Row.below HR.out e12) (Stay.below (F := fun k => (Value.slice la N.length lc).ownBlock = some k ∨ w7.heap.size ≤ k) e12))
  clear b8 b9 b10 b11 b12 e8 e9 e10 e11 e12
  go_wp2
  go_loopw [14] (fun u wr => ∃ i : Nat, u = .int .i64 i ∧ i ≤ N.length ∧ Hid (ES.Row wr (.slice la N.length lc) (mkJ N i) ∧ Stay (fun k => (Value.slice la N.length lc).ownBlock = some k ∨ w7.heap.size ≤ k) w7 wr)) (fun u _ => N.length - (intOf u).toNat)
  case atStart => exact ⟨0, rfl, Nat.zero_le _, Hid.mk ⟨by rw [mkJ_zero]; exact H12.out.1, H12.out.2⟩⟩
  case round =>
    obtain ⟨i, rfl, hi, HJ⟩ := hrel
    by_cases hlt : i < N.length
    · have i1 : (i : Int) < (N.length : Int) := by omega
      have i2 : (0 : Int) ≤ (i : Int) := by omega
      have hwi : IntKind.i64.wrap ((i : Int) + 1) = ((i + 1 : Nat) : Int) := by rw [IntKind.wrap_i64]; omega
      obtain ⟨gl, capl, e, y, fz⟩ := El.cells okS HJ.out.1 i (by rw [mkJ_len N i hi]; exact hlt)
      rw [mkJ_len N i hi] at e
      cases e
      have y0 := y 0 _ rfl
      rw [show i * ES.sz + 0 = i from by show i * 1 + 0 = i; omega] at y0
      have f0 : wr.frozen? ⟨gl, i, none⟩ = false := fz i
      clear y fz
      go_wp2
      refine ⟨⟨i + 1, by push_cast; rfl, hlt, Hid.mk ⟨?_, ?_⟩⟩, by simp only [intOf]; omega⟩
      · rw [← mkJ_set N i hlt]
        have := El.set okS HJ.out.1 (mkJ_len N i hi).symm i (by rw [mkJ_len N i hi]; exact hlt) markS
        rw [show i * ES.sz = i from Nat.mul_one i] at this
        exact this
      · exact Stay.setCell (p := ⟨gl, i, none⟩) HJ.out.2 (fun _ => .inl rfl) _
    · have i1 : ¬ (i : Int) < (N.length : Int) := by omega
      have hiN : i = N.length := by omega
      subst hiN
      have hfull : ES.Row wr (.slice la N.length lc) (List.replicate N.length markS) := by rw [← mkJ_all]; exact HJ.out.1
      have hszr := HJ.out.2.size
      have hsB : ∀ b, (Value.slice la N.length lc).ownBlock = some b → b < w7.heap.size := fun b hb => row_lt HR.out hb
      obtain ⟨v5, w5, hap, hr5, hs5, rel5, st5⟩ := El.grow okS wr N.length 0 _ _ markS w7.heap.size hszr hfull hfull (by
        rcases hfull.2 with ⟨h0, _⟩ | ⟨g, cap, cur, hv, _⟩
        · right; intro b hb; rw [h0] at hb; cases hb
        · left
          simp only [Value.slice.injEq] at hv
          obtain ⟨rfl, -, rfl⟩ := hv
          exact ⟨g, lc, by simp, by simp⟩) hsB (by omega)
      have HA := Hid.mk hap
      have st0 : Stay (fun k => (Value.slice la N.length lc).ownBlock = some k ∨ w7.heap.size ≤ k) w7 w5 := HJ.out.2.andThen st5 (fun k _ e => by rcases e with e | e <;> exact .inl e)
      clear hap
      obtain ⟨wz, hwz⟩ : ∃ wz, wz = wr := ⟨_, rfl⟩
      subst hwz
      go_wp2_with first
        | (at_builtin; refine wpList_append_eq rfl _ _ _ _ rfl _ _ _ _ rfl rfl HA.out ?_)
        | go_in
      have HG := Hid.mk (And.intro hs5 (And.intro hr5 (And.intro rel5 st0)))
      clear hs5 hr5 rel5 st0 st5
      go_loopw [15, 16] (fun v u wr => ∃ t : Nat, u = .int .i64 t ∧ t ≤ 64 ∧ Hid (ES.Row wr (.slice la N.length lc) (List.replicate N.length markS) ∧ ES.Row wr v (List.replicate (N.length + (t + 1)) markS) ∧ ((∃ g cap, Value.slice la N.length lc = .slice (some ⟨g, 0, none⟩) N.length cap ∧ v = .slice (some ⟨g, 0, none⟩) (N.length + (t + 1)) cap) ∨ ∀ b, v.ownBlock = some b → w7.heap.size ≤ b) ∧ Stay (fun k => (Value.slice la N.length lc).ownBlock = some k ∨ w7.heap.size ≤ k) w7 wr)) (fun _ u _ => 64 - (intOf u).toNat)
      case atStart => exact ⟨0, rfl, by omega, HG⟩
      case round =>
        obtain ⟨t, rfl, ht64, HQ⟩ := hrel
        by_cases htl : t < 64
        · have t1 : (t : Int) < 64 := by omega
          have hwt : IntKind.i64.wrap ((t : Int) + 1) = ((t + 1 : Nat) : Int) := by rw [IntKind.wrap_i64]; omega
          obtain ⟨v6, w6', hap, hr6, hs6, rel6, st6⟩ := El.grow okS wr N.length (t + 1) _ _ markS w7.heap.size HQ.out.2.2.2.size HQ.out.1 HQ.out.2.1 HQ.out.2.2.1 hsB (by omega)
          have HA6 := Hid.mk hap
          clear hap
          go_wp2_with first
            | (at_builtin; refine wpList_append_eq rfl _ _ _ _ rfl _ _ _ _ rfl rfl HA6.out ?_)
            | go_in
          refine ⟨⟨t + 1, by push_cast; rfl, htl, Hid.mk ⟨hs6, hr6, rel6, HQ.out.2.2.2.andThen st6 (fun k hk e => ?_)⟩⟩, by simp only [intOf]; omega⟩
          rcases e with e | e
          · exact .inl e
          · rcases HQ.out.2.2.1 with ⟨g, cap, f1, f2⟩ | f
            · left; rw [f1]; rw [f2] at e; exact e
            · exact .inr (f k e)
        · have t1 : ¬ (t : Int) < 64 := by omega
          have ht : t = 64 := by omega
          subst ht
          have st := HQ.out.2.2.2
          have HF := Hid.mk (HL.out.kept st)
          obtain ⟨va, vc, e, -⟩ := El.Row.form HQ.out.2.1
          rw [List.length_replicate] at e
          subst e
          have hwn : IntKind.i64.wrap ((N.length : Int) + 65) = ((N.length + (64 + 1) : Nat) : Int) := by rw [IntKind.wrap_i64]; omega
          go_wp2_with fail
          refine (texts_rows N _ _ _ HF.out.c HF.out.w hN).mono ?_
          rintro e w21 ⟨rfl, b21⟩
          have e21 := b21
          go_wp2_with fail
          refine (texts_rows O _ _ _ (HF.out.below e21).p (HF.out.below e21).o hO).mono ?_
          rintro e w22 ⟨rfl, b22⟩
          have e22 := chain e21 b22 (Nat.le_refl _)
          go_wp2_with fail
          refine (texts_rows O _ _ _ (HF.out.below e22).q (HF.out.below e22).o hO).mono ?_
          rintro e w23 ⟨rfl, b23⟩
          have e23 := chain e22 b23 (Nat.le_refl _)
          go_wp2_with fail
          refine (texts_rows N _ _ _ (HF.out.below e23).z (HF.out.below e23).w hN).mono ?_
          rintro e w24 ⟨rfl, b24⟩
          have e24 := chain e23 b24 (Nat.le_refl _)
          have s24 := st.andThen (Stay.below (F := fun _ => False) e24) (fun _ _ h => h.elim)
          obtain ⟨hb24, bx24⟩ := stay_all HB.out HW.out s24
          obtain ⟨o0, o1, o2, x0, x1, x2⟩ := bx24
          go_wp2_with fail
          refine (c1 w24 (HT.out.lat hb24)).mono ?_
          rintro e w25 ⟨nv, rfl, hn25, an25, b25⟩
          have e25 := chain e24 b25 (Nat.le_refl _)
          go_wp2_with fail
          refine (texts_rows N _ _ _ hn25 (HF.out.below e25).w hN).mono ?_
          rintro e w26 ⟨rfl, b26⟩
          obtain ⟨wa, wc, rfl, -⟩ := El.Row.form HF.out.w
          go_wp2
          go_ret
          refine ⟨rfl, ?_⟩
          exact chain (chain hb24 b25 (Nat.le_refl _)) b26 (Nat.le_refl _)
end Go.Proofs.YtnmhpbgiljchkaaDoor
