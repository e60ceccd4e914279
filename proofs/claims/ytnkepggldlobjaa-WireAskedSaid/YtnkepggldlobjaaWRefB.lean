/-
  DERIVED. The document's own Asked.
-/
import Derived.Test.YtnkepggldlobjaaWRefR2
set_option linter.unusedVariables false
set_option linter.unusedSimpArgs false
namespace Go.Proofs.Ytnkepggldlobjaa
open Go.RowKit Go.Proofs.SealMath
def bgN (c : Nat) (b : ByteArray) : Nat := if (hdX c b).1 = 0 then (hdX c b).2 + 1 else 0
set_option maxHeartbeats 4000000 in
set_option maxRecDepth 100000 in
theorem begun_any (c : Nat) (b : ByteArray) (w : World) (r : Nat) (hb : b.size < 4611686018427387904) (h : HC w r #[.string b, .int .i64 0, .int .i64 0] 85) :
    Calls Try.prog 32 #[Pt r, .int .u8 c] w fun e w' => e = .returned (.int .i64 (bgN c b)) ∧ RRd w' r b (2, (hdX c b).1) ∧ Stay (· = r) w w' := by
  have c0 : w.cell? ⟨r, 0, none⟩ = some (.string b) := h.cell rfl
  have c1 : w.cell? ⟨r, 1, none⟩ = some (.int .i64 0) := h.cell rfl
  have z1 := h.free 1
  have hR := fun x => rrefuse_any b 0 0 x w r h
  have HR := Hid.mk hR
  have H0 := Hid.mk h
  clear hR h
  have fin : ∀ {x : Int} {w1 : World}, x ≠ 0 → HC w1 r #[.string b, .int .i64 (0 : Nat), .int .i64 x] 85 → RRd w1 r b (2, x) := fun hx h => ⟨0, h, Nat.zero_le _, fun e => absurd e hx⟩
  have FIN := Hid.mk (fun x w1 => @fin x w1)
  clear fin
  by_cases h0 : b.size = 0
  · have hX : hdX c b = (31, 0) := by unfold hdX; rw [dif_pos h0]
    have hN : bgN c b = 0 := by unfold bgN; rw [hX]; rfl
    rw [hX, hN]
    have h0' : (b.size : Int) = 0 := by omega
    clear hX hN
    go_enter Try.func32, Try.ntmps32
    go_wp2_with (go_at_call 57; refine (HR.out 31).mono ?_; rintro y w1 ⟨rfl, r1, s1⟩; rw [if_pos rfl] at r1; have HX := Hid.mk (And.intro r1 s1); clear r1 s1)
    go_ret
    exact ⟨rfl, FIN.out _ _ (by decide) HX.out.1, HX.out.2⟩
  · have h0' : ¬ (b.size : Int) = 0 := by omega
    have l0 : 0 < b.size := by omega
    have l0' : (0 : Int) < (b.size : Int) := by omega
    obtain ⟨x0, hx0⟩ : ∃ x, x = b[0] := ⟨_, rfl⟩
    have g0 : ∀ (h : 0 < b.size), b[0]'h = x0 := fun _ => hx0.symm
    by_cases hc : x0.toNat = c
    · by_cases h1 : b.size = 1
      · have hX : hdX c b = (31, 0) := by unfold hdX; rw [dif_neg h0, if_neg (fun h => h (by rw [← hx0]; exact hc)), dif_pos h1]
        have hN : bgN c b = 0 := by unfold bgN; rw [hX]; rfl
        rw [hX, hN]
        have h1' : (b.size : Int) = 1 := by omega
        subst hc
        clear hX hN hx0
        go_enter Try.func32, Try.ntmps32
        go_wp2_with (go_at_call 57; refine (HR.out 31).mono ?_; rintro y w1 ⟨rfl, r1, s1⟩; rw [if_pos rfl] at r1; have HX := Hid.mk (And.intro r1 s1); clear r1 s1)
        go_ret
        exact ⟨rfl, FIN.out _ _ (by decide) HX.out.1, HX.out.2⟩
      · have h1' : ¬ (b.size : Int) = 1 := by omega
        have l1 : 1 < b.size := by omega
        have l1' : (1 : Int) < (b.size : Int) := by omega
        obtain ⟨x1, hx1⟩ : ∃ x, x = b[1] := ⟨_, rfl⟩
        have g1 : ∀ (h : 1 < b.size), b[1]'h = x1 := fun _ => hx1.symm
        have hw : wrap64 (x1.toNat : Int) = (x1.toNat : Int) := w64_in _ (by omega) (by have := x1.toNat_lt; omega)
        have HW := Hid.mk hw
        clear hw
        by_cases h3 : 1 ≤ x1.toNat ∧ x1.toNat ≤ 9
        · have hX : hdX c b = (0, x1.toNat - 1) := by unfold hdX; rw [dif_neg h0, if_neg (fun h => h (by rw [← hx0]; exact hc)), dif_neg h1]; simp only [← hx1]; rw [if_pos h3]
          have hN : bgN c b = x1.toNat := by unfold bgN; rw [hX]; simp only [if_true]; omega
          rw [hX, hN]
          have a1 : ¬ (x1.toNat : Int) < 1 := by omega
          have a2 : ¬ (9 : Int) < (x1.toNat : Int) := by omega
          have HL := Hid.mk l1
          subst hc
          have hw := HW.out
          clear hX hN hx0 hx1 h3 HW
          go_enter Try.func32, Try.ntmps32
          go_wp2
          go_ret
          exact ⟨rfl, ⟨2, HC.set H0.out 1 _, HL.out, fun _ => rfl⟩, (Stay.refl (· = r) w).setCell (p := ⟨r, 1, none⟩) (fun _ => rfl) _⟩
        · have hX : hdX c b = (35, 0) := by unfold hdX; rw [dif_neg h0, if_neg (fun h => h (by rw [← hx0]; exact hc)), dif_neg h1]; simp only [← hx1]; rw [if_neg h3]
          have hN : bgN c b = 0 := by unfold bgN; rw [hX]; rfl
          rw [hX, hN]
          subst hc
          by_cases a1 : (x1.toNat : Int) < 1
          · have hw := HW.out
            clear hX hN hx0 hx1 h3 HW
            go_enter Try.func32, Try.ntmps32
            go_wp2_with (go_at_call 57; refine (HR.out 35).mono ?_; rintro y w1 ⟨rfl, r1, s1⟩; rw [if_pos rfl] at r1; have HX := Hid.mk (And.intro r1 s1); clear r1 s1)
            go_ret
            exact ⟨rfl, FIN.out _ _ (by decide) HX.out.1, HX.out.2⟩
          · have a2 : (9 : Int) < (x1.toNat : Int) := by omega
            have hw := HW.out
            clear hX hN hx0 hx1 h3 HW
            go_enter Try.func32, Try.ntmps32
            go_wp2_with (go_at_call 57; refine (HR.out 35).mono ?_; rintro y w1 ⟨rfl, r1, s1⟩; rw [if_pos rfl] at r1; have HX := Hid.mk (And.intro r1 s1); clear r1 s1)
            go_ret
            exact ⟨rfl, FIN.out _ _ (by decide) HX.out.1, HX.out.2⟩
    · have hX : hdX c b = (35, 0) := by unfold hdX; rw [dif_neg h0, if_pos (by rw [← hx0]; exact hc)]
      have hN : bgN c b = 0 := by unfold bgN; rw [hX]; rfl
      rw [hX, hN]
      have hc' : ¬ (x0.toNat : Int) = (c : Int) := by omega
      clear hX hN hx0
      go_enter Try.func32, Try.ntmps32
      go_wp2_with (go_at_call 57; refine (HR.out 35).mono ?_; rintro y w1 ⟨rfl, r1, s1⟩; rw [if_pos rfl] at r1; have HX := Hid.mk (And.intro r1 s1); clear r1 s1)
      go_ret
      exact ⟨rfl, FIN.out _ _ (by decide) HX.out.1, HX.out.2⟩
set_option maxHeartbeats 1000000 in
theorem names_zero (w : World) : Calls Try.prog 26 #[.int .i64 0] w fun e w' => e = .returned (.tuple #[.bool false, .bool false, .bool false, .bool false]) ∧ w' = w := by
  go_enter Try.func26, Try.ntmps26
  go_wp2
  refine bodyPost_ret (v := .tuple #[.bool false, .bool false, .bool false, .bool false]) (by simp [results, Try.results26, go_sem]; try rfl) rfl ?_
  exact ⟨rfl, rfl⟩
theorem rtwo_new (w : World) (b : ByteArray) : HC ((w.alloc (.cells #[.int .i64 0, .int .i64 0, .string ⟨#[]⟩, .int .i64 0, .int .i64 0] 23)).alloc (.cells #[.string b, .int .i64 0, .int .i64 0] 85)) w.heap.size #[.int .i64 0, .int .i64 0, .string ⟨#[]⟩, .int .i64 0, .int .i64 0] 23 ∧ HC ((w.alloc (.cells #[.int .i64 0, .int .i64 0, .string ⟨#[]⟩, .int .i64 0, .int .i64 0] 23)).alloc (.cells #[.string b, .int .i64 0, .int .i64 0] 85)) (w.heap.size + 1) #[.string b, .int .i64 0, .int .i64 0] 85 ∧ ((w.alloc (.cells #[.int .i64 0, .int .i64 0, .string ⟨#[]⟩, .int .i64 0, .int .i64 0] 23)).alloc (.cells #[.string b, .int .i64 0, .int .i64 0] 85)).heap.size = w.heap.size + 2 ∧ Stay (fun k => w.heap.size ≤ k) w ((w.alloc (.cells #[.int .i64 0, .int .i64 0, .string ⟨#[]⟩, .int .i64 0, .int .i64 0] 23)).alloc (.cells #[.string b, .int .i64 0, .int .i64 0] 85)) := by
  refine ⟨HC.alloc (HC.new w _ _) _, ?_, by simp, ((Stay.refl _ w).alloc _).alloc _⟩
  have := HC.new (w.alloc (.cells #[.int .i64 0, .int .i64 0, .string ⟨#[]⟩, .int .i64 0, .int .i64 0] 23)) #[.string b, .int .i64 0, .int .i64 0] 85
  have e : (w.alloc (.cells #[.int .i64 0, .int .i64 0, .string ⟨#[]⟩, .int .i64 0, .int .i64 0] 23)).heap.size = w.heap.size + 1 := by simp
  rw [e] at this
  exact this
/-- The boxes of the document's Asked: the result, the reader, the request. -/
structure QB (w : World) (W : World) (r g : Nat) (b : ByteArray) (s : RS) (C : Array Value) : Prop where
  res : HC W w.heap.size #[.int .i64 0, .int .i64 0, .string ⟨#[]⟩, .int .i64 0, .int .i64 0] 23
  rd : RRd W r b s
  req : HC W g C 23
  lr : w.heap.size < r
  lg : r < g
  old : Stay (fun k => w.heap.size ≤ k) w W
theorem QB.step {w W W1 : World} {r g : Nat} {b : ByteArray} {s s1 : RS} {C : Array Value} (h : QB w W r g b s C) (h1 : RRd W1 r b s1) (st : Stay (· = r) W W1) (o : Nat) (v : Value) : QB w (W1.setCell ⟨g, o, none⟩ v) r g b s1 (C.setIfInBounds o v) := by
  have l1 := h.lr; have l2 := h.lg
  have st2 : Stay (· = g) W1 (W1.setCell ⟨g, o, none⟩ v) := (Stay.refl (· = g) W1).setCell (p := ⟨g, o, none⟩) (fun _ => rfl) v
  exact ⟨(h.res.stay st (fun e => by omega)).stay st2 (fun e => by omega), h1.stay st2 (fun e => by omega), HC.set (h.req.stay st (fun e => by omega)) o v, h.lr, h.lg, (h.old.andThen st (fun i hi e => by omega)).andThen st2 (fun i hi e => by omega)⟩
theorem qb_new {w w3 : World} {r : Nat} {b : ByteArray} {s : RS} (C : Array Value) (h : HC w3 w.heap.size #[.int .i64 0, .int .i64 0, .string ⟨#[]⟩, .int .i64 0, .int .i64 0] 23) (h1 : RRd w3 r b s) (lr : w.heap.size < r) (st : Stay (fun k => w.heap.size ≤ k) w w3) :
    QB w (w3.alloc (.cells C 23)) r w3.heap.size b s C :=
  ⟨h.alloc _, h1.below ((Below.refl _ w3).alloc (Nat.le_refl _) _), HC.new w3 _ _, lr, h1.lt, st.alloc _⟩
set_option maxHeartbeats 4000000 in
set_option maxRecDepth 100000 in
/-- The document's Asked, class A. -/
theorem rasked_A (b : ByteArray) (w : World) (hb : b.size < 4611686018427387904) (m : Nat) (x0 : Int) (hbg : bgN 81 b = m) (hx0 : (hdX 81 b).1 = x0) (A3 : Nat × Fs × Int)
    (hA3 : A3 = if endE b (rdT b (rdN b (2, x0)).2).2 ≠ 0 then (0, zFs, endE b (rdT b (rdN b (2, x0)).2).2) else (m, ⟨(rdN b (2, x0)).1, (rdT b (rdN b (2, x0)).2).1, 0, 0⟩, 0))
    (hN : ∀ W, Calls Try.prog 26 #[.int .i64 m] W fun e w' => e = .returned (.tuple #[.bool true, .bool true, .bool false, .bool false]) ∧ w' = W) :
    Calls Try.prog 12 #[.string b] w fun e w' => e = .returned (.tuple #[.agg (rqC A3.1 A3.2.1), .int .i64 A3.2.2]) ∧ Below w.heap.size w w' := by
  obtain ⟨q2, r2, z2, s2⟩ := rtwo_new w b
  have hbe := begun_any 81 b _ _ hb r2
  rw [hbg, hx0] at hbe
  have hc0 := fun W r h => rany_any b (2, x0) W r hb h
  obtain ⟨v0, t0, hv0⟩ : ∃ v t, rdN b (2, x0) = (v, t) := ⟨_, _, rfl⟩
  simp only [hv0] at hc0 hA3
  have hc1 := fun W r h => rrtext_any b t0 W r hb h
  obtain ⟨v1, t1, hv1⟩ : ∃ v t, rdT b t0 = (v, t) := ⟨_, _, rfl⟩
  simp only [hv1] at hc1 hA3
  have hen := fun W r h => ended_any b t1 W r hb h
  obtain ⟨x, hxe⟩ : ∃ x, x = endE b t1 := ⟨_, rfl⟩
  rw [← hxe] at hA3 hen
  obtain ⟨r, hr⟩ : ∃ r, r = w.heap.size + 1 := ⟨_, rfl⟩
  rw [← hr] at hbe r2
  have hrl : w.heap.size < r := by omega
  obtain ⟨V, hV⟩ : ∃ V, V = ((w.alloc (.cells #[.int .i64 0, .int .i64 0, .string ⟨#[]⟩, .int .i64 0, .int .i64 0] 23)).alloc (.cells #[.string b, .int .i64 0, .int .i64 0] 85)) := ⟨_, rfl⟩
  have hVz : V.heap.size = w.heap.size + 2 := by rw [hV]; exact z2
  rw [← hV] at hbe r2 q2 s2
  have hr2 : (w.alloc (.cells #[.int .i64 0, .int .i64 0, .string ⟨#[]⟩, .int .i64 0, .int .i64 0] 23)).heap.size = r := by rw [hr]; simp
  have HH := Hid.mk (And.intro q2 (And.intro s2 (And.intro hr hVz)))
  have HV := Hid.mk hV
  have HA := Hid.mk hA3
  have HE := Hid.mk hen
  have HC0 := Hid.mk hc0
  have HC1 := Hid.mk hc1
  clear hA3 hen hxe r2 q2 s2 z2 hr hVz hV hbg hx0 hc0 hv0 hc1 hv1
  go_enter Try.func12, Try.ntmps12
  go_wp2_with (first | (go_at_call 32; (try rw [← HV.out]); refine hbe.mono ?_; clear hbe; rintro e w3 ⟨rfl, r3, s3⟩; have H3 := Hid.mk (qb_new #[.int .i64 m, .int .i64 0, .string ⟨#[]⟩, .int .i64 0, .int .i64 0] (HH.out.1.stay s3 (fun e => by omega)) r3 hrl (HH.out.2.1.andThen s3 (fun i hi e => by omega))); clear r3 s3))
  obtain ⟨V4, hV4⟩ : ∃ V4, V4 = w3.alloc (.cells #[.int .i64 m, .int .i64 0, .string ⟨#[]⟩, .int .i64 0, .int .i64 0] 23) := ⟨_, rfl⟩
  have hV5 : w3.alloc (.cells #[.int .i64 m, .int .i64 0, .string ⟨#[]⟩, .int .i64 0, .int .i64 0] 23) = V4 := hV4.symm
  rw [hV5]
  rw [← hV4] at H3
  obtain ⟨g, hg⟩ : ∃ g, g = w3.heap.size := ⟨_, rfl⟩
  simp only [← hg]
  rw [← hg] at H3
  have hrg : r < g := H3.out.lg
  clear hV4 hV5 hg HH HV hr2
  have y0 : V4.cell? ⟨g, 0, none⟩ = some (.int .i64 m) := H3.out.req.cell rfl
  have y1 : V4.cell? ⟨g, 1, none⟩ = some (.int .i64 0) := H3.out.req.cell rfl
  have y2 : V4.cell? ⟨g, 2, none⟩ = some (.string ⟨#[]⟩) := H3.out.req.cell rfl
  have y3 : V4.cell? ⟨g, 3, none⟩ = some (.int .i64 0) := H3.out.req.cell rfl
  have y4 : V4.cell? ⟨g, 4, none⟩ = some (.int .i64 0) := H3.out.req.cell rfl
  by_cases hx0 : x = 0
  · subst hx0
    go_wp2_with (first | (go_at_call 26; refine (hN _).mono ?_; clear hN; rintro e wn ⟨rfl, rfl⟩) | (go_at_call 33; refine (HC0.out _ r H3.out.rd).mono ?_; rintro e u0 ⟨rfl, r5, s5⟩; have k5 := H3.out.req.stay s5 (fun e => by omega); have e00 : u0.cell? ⟨g, 0, none⟩ = some (.int .i64 m) := k5.cell rfl; have f00 := k5.free 0; have e01 : u0.cell? ⟨g, 1, none⟩ = some (.int .i64 0) := k5.cell rfl; have f01 := k5.free 1; have e02 : u0.cell? ⟨g, 2, none⟩ = some (.string ⟨#[]⟩) := k5.cell rfl; have f02 := k5.free 2; have e03 : u0.cell? ⟨g, 3, none⟩ = some (.int .i64 0) := k5.cell rfl; have f03 := k5.free 3; have e04 : u0.cell? ⟨g, 4, none⟩ = some (.int .i64 0) := k5.cell rfl; have f04 := k5.free 4; have H50 := Hid.mk (H3.out.step r5 s5 1 (.int .i64 v0)); clear k5 r5 s5) | (go_at_call 34; refine (HC1.out _ r H50.out.rd).mono ?_; rintro e u1 ⟨rfl, r5, s5⟩; have k5 := H50.out.req.stay s5 (fun e => by omega); have e10 : u1.cell? ⟨g, 0, none⟩ = some (.int .i64 m) := k5.cell rfl; have f10 := k5.free 0; have e11 : u1.cell? ⟨g, 1, none⟩ = some (.int .i64 v0) := k5.cell rfl; have f11 := k5.free 1; have e12 : u1.cell? ⟨g, 2, none⟩ = some (.string ⟨#[]⟩) := k5.cell rfl; have f12 := k5.free 2; have e13 : u1.cell? ⟨g, 3, none⟩ = some (.int .i64 0) := k5.cell rfl; have f13 := k5.free 3; have e14 : u1.cell? ⟨g, 4, none⟩ = some (.int .i64 0) := k5.cell rfl; have f14 := k5.free 4; have H51 := Hid.mk (H50.out.step r5 s5 2 (Tx v1)); clear k5 r5 s5) | (go_at_call 35; refine (HE.out _ r H51.out.rd).mono ?_; rintro e w7 ⟨rfl, s7⟩; have k7 := H51.out.res.stay s7 (fun e => by omega); have g7 := H51.out.req.stay s7 (fun e => by omega); have t7 := H51.out.old.andThen s7 (fun i hi e => by omega); have q0 : w7.cell? ⟨w.heap.size, 0, none⟩ = some (.int .i64 0) := k7.cell rfl; have z0 := k7.free 0; have q1 : w7.cell? ⟨w.heap.size, 1, none⟩ = some (.int .i64 0) := k7.cell rfl; have z1 := k7.free 1; have q2 : w7.cell? ⟨w.heap.size, 2, none⟩ = some (.string ⟨#[]⟩) := k7.cell rfl; have z2 := k7.free 2; have q3 : w7.cell? ⟨w.heap.size, 3, none⟩ = some (.int .i64 0) := k7.cell rfl; have z3 := k7.free 3; have q4 : w7.cell? ⟨w.heap.size, 4, none⟩ = some (.int .i64 0) := k7.cell rfl; have z4 := k7.free 4; have b0 : w7.cell? ⟨g, 0, none⟩ = some (.int .i64 m) := g7.cell rfl; have b1 : w7.cell? ⟨g, 1, none⟩ = some (.int .i64 v0) := g7.cell rfl; have b2 : w7.cell? ⟨g, 2, none⟩ = some (Tx v1) := g7.cell rfl; have b3 : w7.cell? ⟨g, 3, none⟩ = some (.int .i64 0) := g7.cell rfl; have b4 : w7.cell? ⟨g, 4, none⟩ = some (.int .i64 0) := g7.cell rfl; have H7 := Hid.mk (And.intro k7 t7); clear k7 g7 t7 s7))
    obtain ⟨K9, S9⟩ := put5 H7.out.1 (.int .i64 m) (.int .i64 v0) (Tx v1) (.int .i64 0) (.int .i64 0)
    have HK := Hid.mk (And.intro K9 S9)
    clear K9 S9
    obtain ⟨W9, hW9⟩ : ∃ W9, W9 = (((((w7.setCell ⟨w.heap.size, 0, none⟩ (.int .i64 m)).setCell ⟨w.heap.size, 1, none⟩ (.int .i64 v0)).setCell ⟨w.heap.size, 2, none⟩ (Tx v1)).setCell ⟨w.heap.size, 3, none⟩ (.int .i64 0)).setCell ⟨w.heap.size, 4, none⟩ (.int .i64 0)) := ⟨_, rfl⟩
    rw [← hW9] at HK ⊢
    have a0 : W9.cell? ⟨w.heap.size, 0, none⟩ = some (.int .i64 m) := HK.out.1.cell rfl
    have a1 : W9.cell? ⟨w.heap.size, 1, none⟩ = some (.int .i64 v0) := HK.out.1.cell rfl
    have a2 : W9.cell? ⟨w.heap.size, 2, none⟩ = some (Tx v1) := HK.out.1.cell rfl
    have a3 : W9.cell? ⟨w.heap.size, 3, none⟩ = some (.int .i64 0) := HK.out.1.cell rfl
    have a4 : W9.cell? ⟨w.heap.size, 4, none⟩ = some (.int .i64 0) := HK.out.1.cell rfl
    refine bodyPost_ret (v := .tuple #[.agg #[(.int .i64 m), (.int .i64 v0), (Tx v1), (.int .i64 0), (.int .i64 0)], .int .i64 0]) (by simp [results, Try.results12, go_sem, a0, a1, a2, a3, a4]; try rfl) rfl ?_
    refine ⟨by rw [HA.out, if_neg (fun h => h rfl)]; try rfl, Stay.toBelow (F := fun k => w.heap.size ≤ k) (H7.out.2.andThen HK.out.2 (fun i hi e => by omega)) (fun k hk h => by omega) (Nat.le_refl _)⟩
  · go_wp2_with (first | (go_at_call 26; refine (hN _).mono ?_; clear hN; rintro e wn ⟨rfl, rfl⟩) | (go_at_call 33; refine (HC0.out _ r H3.out.rd).mono ?_; rintro e u0 ⟨rfl, r5, s5⟩; have k5 := H3.out.req.stay s5 (fun e => by omega); have e00 : u0.cell? ⟨g, 0, none⟩ = some (.int .i64 m) := k5.cell rfl; have f00 := k5.free 0; have e01 : u0.cell? ⟨g, 1, none⟩ = some (.int .i64 0) := k5.cell rfl; have f01 := k5.free 1; have e02 : u0.cell? ⟨g, 2, none⟩ = some (.string ⟨#[]⟩) := k5.cell rfl; have f02 := k5.free 2; have e03 : u0.cell? ⟨g, 3, none⟩ = some (.int .i64 0) := k5.cell rfl; have f03 := k5.free 3; have e04 : u0.cell? ⟨g, 4, none⟩ = some (.int .i64 0) := k5.cell rfl; have f04 := k5.free 4; have H50 := Hid.mk (H3.out.step r5 s5 1 (.int .i64 v0)); clear k5 r5 s5) | (go_at_call 34; refine (HC1.out _ r H50.out.rd).mono ?_; rintro e u1 ⟨rfl, r5, s5⟩; have k5 := H50.out.req.stay s5 (fun e => by omega); have e10 : u1.cell? ⟨g, 0, none⟩ = some (.int .i64 m) := k5.cell rfl; have f10 := k5.free 0; have e11 : u1.cell? ⟨g, 1, none⟩ = some (.int .i64 v0) := k5.cell rfl; have f11 := k5.free 1; have e12 : u1.cell? ⟨g, 2, none⟩ = some (.string ⟨#[]⟩) := k5.cell rfl; have f12 := k5.free 2; have e13 : u1.cell? ⟨g, 3, none⟩ = some (.int .i64 0) := k5.cell rfl; have f13 := k5.free 3; have e14 : u1.cell? ⟨g, 4, none⟩ = some (.int .i64 0) := k5.cell rfl; have f14 := k5.free 4; have H51 := Hid.mk (H50.out.step r5 s5 2 (Tx v1)); clear k5 r5 s5) | (go_at_call 35; refine (HE.out _ r H51.out.rd).mono ?_; rintro e w7 ⟨rfl, s7⟩; have k7 := H51.out.res.stay s7 (fun e => by omega); have g7 := H51.out.req.stay s7 (fun e => by omega); have t7 := H51.out.old.andThen s7 (fun i hi e => by omega); have q0 : w7.cell? ⟨w.heap.size, 0, none⟩ = some (.int .i64 0) := k7.cell rfl; have z0 := k7.free 0; have q1 : w7.cell? ⟨w.heap.size, 1, none⟩ = some (.int .i64 0) := k7.cell rfl; have z1 := k7.free 1; have q2 : w7.cell? ⟨w.heap.size, 2, none⟩ = some (.string ⟨#[]⟩) := k7.cell rfl; have z2 := k7.free 2; have q3 : w7.cell? ⟨w.heap.size, 3, none⟩ = some (.int .i64 0) := k7.cell rfl; have z3 := k7.free 3; have q4 : w7.cell? ⟨w.heap.size, 4, none⟩ = some (.int .i64 0) := k7.cell rfl; have z4 := k7.free 4; have b0 : w7.cell? ⟨g, 0, none⟩ = some (.int .i64 m) := g7.cell rfl; have b1 : w7.cell? ⟨g, 1, none⟩ = some (.int .i64 v0) := g7.cell rfl; have b2 : w7.cell? ⟨g, 2, none⟩ = some (Tx v1) := g7.cell rfl; have b3 : w7.cell? ⟨g, 3, none⟩ = some (.int .i64 0) := g7.cell rfl; have b4 : w7.cell? ⟨g, 4, none⟩ = some (.int .i64 0) := g7.cell rfl; have H7 := Hid.mk (And.intro k7 t7); clear k7 g7 t7 s7))
    obtain ⟨K9, S9⟩ := put5 H7.out.1 (.int .i64 0) (.int .i64 0) (.string ⟨#[]⟩) (.int .i64 0) (.int .i64 0)
    have HK := Hid.mk (And.intro K9 S9)
    clear K9 S9
    obtain ⟨W9, hW9⟩ : ∃ W9, W9 = (((((w7.setCell ⟨w.heap.size, 0, none⟩ (.int .i64 0)).setCell ⟨w.heap.size, 1, none⟩ (.int .i64 0)).setCell ⟨w.heap.size, 2, none⟩ (.string ⟨#[]⟩)).setCell ⟨w.heap.size, 3, none⟩ (.int .i64 0)).setCell ⟨w.heap.size, 4, none⟩ (.int .i64 0)) := ⟨_, rfl⟩
    rw [← hW9] at HK ⊢
    have a0 : W9.cell? ⟨w.heap.size, 0, none⟩ = some (.int .i64 0) := HK.out.1.cell rfl
    have a1 : W9.cell? ⟨w.heap.size, 1, none⟩ = some (.int .i64 0) := HK.out.1.cell rfl
    have a2 : W9.cell? ⟨w.heap.size, 2, none⟩ = some (.string ⟨#[]⟩) := HK.out.1.cell rfl
    have a3 : W9.cell? ⟨w.heap.size, 3, none⟩ = some (.int .i64 0) := HK.out.1.cell rfl
    have a4 : W9.cell? ⟨w.heap.size, 4, none⟩ = some (.int .i64 0) := HK.out.1.cell rfl
    refine bodyPost_ret (v := .tuple #[.agg #[(.int .i64 0), (.int .i64 0), (.string ⟨#[]⟩), (.int .i64 0), (.int .i64 0)], .int .i64 x]) (by simp [results, Try.results12, go_sem, a0, a1, a2, a3, a4]; try rfl) rfl ?_
    refine ⟨by rw [HA.out, if_pos hx0]; try rfl, Stay.toBelow (F := fun k => w.heap.size ≤ k) (H7.out.2.andThen HK.out.2 (fun i hi e => by omega)) (fun k hk h => by omega) (Nat.le_refl _)⟩
set_option maxHeartbeats 4000000 in
set_option maxRecDepth 100000 in
/-- The document's Asked, class B. -/
theorem rasked_B (b : ByteArray) (w : World) (hb : b.size < 4611686018427387904) (m : Nat) (x0 : Int) (hbg : bgN 81 b = m) (hx0 : (hdX 81 b).1 = x0) (A3 : Nat × Fs × Int)
    (hA3 : A3 = if endE b (rdN b (2, x0)).2 ≠ 0 then (0, zFs, endE b (rdN b (2, x0)).2) else (m, ⟨(rdN b (2, x0)).1, [], 0, 0⟩, 0))
    (hN : ∀ W, Calls Try.prog 26 #[.int .i64 m] W fun e w' => e = .returned (.tuple #[.bool true, .bool false, .bool false, .bool false]) ∧ w' = W) :
    Calls Try.prog 12 #[.string b] w fun e w' => e = .returned (.tuple #[.agg (rqC A3.1 A3.2.1), .int .i64 A3.2.2]) ∧ Below w.heap.size w w' := by
  obtain ⟨q2, r2, z2, s2⟩ := rtwo_new w b
  have hbe := begun_any 81 b _ _ hb r2
  rw [hbg, hx0] at hbe
  have hc0 := fun W r h => rany_any b (2, x0) W r hb h
  obtain ⟨v0, t0, hv0⟩ : ∃ v t, rdN b (2, x0) = (v, t) := ⟨_, _, rfl⟩
  simp only [hv0] at hc0 hA3
  have hen := fun W r h => ended_any b t0 W r hb h
  obtain ⟨x, hxe⟩ : ∃ x, x = endE b t0 := ⟨_, rfl⟩
  rw [← hxe] at hA3 hen
  obtain ⟨r, hr⟩ : ∃ r, r = w.heap.size + 1 := ⟨_, rfl⟩
  rw [← hr] at hbe r2
  have hrl : w.heap.size < r := by omega
  obtain ⟨V, hV⟩ : ∃ V, V = ((w.alloc (.cells #[.int .i64 0, .int .i64 0, .string ⟨#[]⟩, .int .i64 0, .int .i64 0] 23)).alloc (.cells #[.string b, .int .i64 0, .int .i64 0] 85)) := ⟨_, rfl⟩
  have hVz : V.heap.size = w.heap.size + 2 := by rw [hV]; exact z2
  rw [← hV] at hbe r2 q2 s2
  have hr2 : (w.alloc (.cells #[.int .i64 0, .int .i64 0, .string ⟨#[]⟩, .int .i64 0, .int .i64 0] 23)).heap.size = r := by rw [hr]; simp
  have HH := Hid.mk (And.intro q2 (And.intro s2 (And.intro hr hVz)))
  have HV := Hid.mk hV
  have HA := Hid.mk hA3
  have HE := Hid.mk hen
  have HC0 := Hid.mk hc0
  clear hA3 hen hxe r2 q2 s2 z2 hr hVz hV hbg hx0 hc0 hv0
  go_enter Try.func12, Try.ntmps12
  go_wp2_with (first | (go_at_call 32; (try rw [← HV.out]); refine hbe.mono ?_; clear hbe; rintro e w3 ⟨rfl, r3, s3⟩; have H3 := Hid.mk (qb_new #[.int .i64 m, .int .i64 0, .string ⟨#[]⟩, .int .i64 0, .int .i64 0] (HH.out.1.stay s3 (fun e => by omega)) r3 hrl (HH.out.2.1.andThen s3 (fun i hi e => by omega))); clear r3 s3))
  obtain ⟨V4, hV4⟩ : ∃ V4, V4 = w3.alloc (.cells #[.int .i64 m, .int .i64 0, .string ⟨#[]⟩, .int .i64 0, .int .i64 0] 23) := ⟨_, rfl⟩
  have hV5 : w3.alloc (.cells #[.int .i64 m, .int .i64 0, .string ⟨#[]⟩, .int .i64 0, .int .i64 0] 23) = V4 := hV4.symm
  rw [hV5]
  rw [← hV4] at H3
  obtain ⟨g, hg⟩ : ∃ g, g = w3.heap.size := ⟨_, rfl⟩
  simp only [← hg]
  rw [← hg] at H3
  have hrg : r < g := H3.out.lg
  clear hV4 hV5 hg HH HV hr2
  have y0 : V4.cell? ⟨g, 0, none⟩ = some (.int .i64 m) := H3.out.req.cell rfl
  have y1 : V4.cell? ⟨g, 1, none⟩ = some (.int .i64 0) := H3.out.req.cell rfl
  have y2 : V4.cell? ⟨g, 2, none⟩ = some (.string ⟨#[]⟩) := H3.out.req.cell rfl
  have y3 : V4.cell? ⟨g, 3, none⟩ = some (.int .i64 0) := H3.out.req.cell rfl
  have y4 : V4.cell? ⟨g, 4, none⟩ = some (.int .i64 0) := H3.out.req.cell rfl
  by_cases hx0 : x = 0
  · subst hx0
    go_wp2_with (first | (go_at_call 26; refine (hN _).mono ?_; clear hN; rintro e wn ⟨rfl, rfl⟩) | (go_at_call 33; refine (HC0.out _ r H3.out.rd).mono ?_; rintro e u0 ⟨rfl, r5, s5⟩; have k5 := H3.out.req.stay s5 (fun e => by omega); have e00 : u0.cell? ⟨g, 0, none⟩ = some (.int .i64 m) := k5.cell rfl; have f00 := k5.free 0; have e01 : u0.cell? ⟨g, 1, none⟩ = some (.int .i64 0) := k5.cell rfl; have f01 := k5.free 1; have e02 : u0.cell? ⟨g, 2, none⟩ = some (.string ⟨#[]⟩) := k5.cell rfl; have f02 := k5.free 2; have e03 : u0.cell? ⟨g, 3, none⟩ = some (.int .i64 0) := k5.cell rfl; have f03 := k5.free 3; have e04 : u0.cell? ⟨g, 4, none⟩ = some (.int .i64 0) := k5.cell rfl; have f04 := k5.free 4; have H50 := Hid.mk (H3.out.step r5 s5 1 (.int .i64 v0)); clear k5 r5 s5) | (go_at_call 35; refine (HE.out _ r H50.out.rd).mono ?_; rintro e w7 ⟨rfl, s7⟩; have k7 := H50.out.res.stay s7 (fun e => by omega); have g7 := H50.out.req.stay s7 (fun e => by omega); have t7 := H50.out.old.andThen s7 (fun i hi e => by omega); have q0 : w7.cell? ⟨w.heap.size, 0, none⟩ = some (.int .i64 0) := k7.cell rfl; have z0 := k7.free 0; have q1 : w7.cell? ⟨w.heap.size, 1, none⟩ = some (.int .i64 0) := k7.cell rfl; have z1 := k7.free 1; have q2 : w7.cell? ⟨w.heap.size, 2, none⟩ = some (.string ⟨#[]⟩) := k7.cell rfl; have z2 := k7.free 2; have q3 : w7.cell? ⟨w.heap.size, 3, none⟩ = some (.int .i64 0) := k7.cell rfl; have z3 := k7.free 3; have q4 : w7.cell? ⟨w.heap.size, 4, none⟩ = some (.int .i64 0) := k7.cell rfl; have z4 := k7.free 4; have b0 : w7.cell? ⟨g, 0, none⟩ = some (.int .i64 m) := g7.cell rfl; have b1 : w7.cell? ⟨g, 1, none⟩ = some (.int .i64 v0) := g7.cell rfl; have b2 : w7.cell? ⟨g, 2, none⟩ = some (.string ⟨#[]⟩) := g7.cell rfl; have b3 : w7.cell? ⟨g, 3, none⟩ = some (.int .i64 0) := g7.cell rfl; have b4 : w7.cell? ⟨g, 4, none⟩ = some (.int .i64 0) := g7.cell rfl; have H7 := Hid.mk (And.intro k7 t7); clear k7 g7 t7 s7))
    obtain ⟨K9, S9⟩ := put5 H7.out.1 (.int .i64 m) (.int .i64 v0) (.string ⟨#[]⟩) (.int .i64 0) (.int .i64 0)
    have HK := Hid.mk (And.intro K9 S9)
    clear K9 S9
    obtain ⟨W9, hW9⟩ : ∃ W9, W9 = (((((w7.setCell ⟨w.heap.size, 0, none⟩ (.int .i64 m)).setCell ⟨w.heap.size, 1, none⟩ (.int .i64 v0)).setCell ⟨w.heap.size, 2, none⟩ (.string ⟨#[]⟩)).setCell ⟨w.heap.size, 3, none⟩ (.int .i64 0)).setCell ⟨w.heap.size, 4, none⟩ (.int .i64 0)) := ⟨_, rfl⟩
    rw [← hW9] at HK ⊢
    have a0 : W9.cell? ⟨w.heap.size, 0, none⟩ = some (.int .i64 m) := HK.out.1.cell rfl
    have a1 : W9.cell? ⟨w.heap.size, 1, none⟩ = some (.int .i64 v0) := HK.out.1.cell rfl
    have a2 : W9.cell? ⟨w.heap.size, 2, none⟩ = some (.string ⟨#[]⟩) := HK.out.1.cell rfl
    have a3 : W9.cell? ⟨w.heap.size, 3, none⟩ = some (.int .i64 0) := HK.out.1.cell rfl
    have a4 : W9.cell? ⟨w.heap.size, 4, none⟩ = some (.int .i64 0) := HK.out.1.cell rfl
    refine bodyPost_ret (v := .tuple #[.agg #[(.int .i64 m), (.int .i64 v0), (.string ⟨#[]⟩), (.int .i64 0), (.int .i64 0)], .int .i64 0]) (by simp [results, Try.results12, go_sem, a0, a1, a2, a3, a4]; try rfl) rfl ?_
    refine ⟨by rw [HA.out, if_neg (fun h => h rfl)]; try rfl, Stay.toBelow (F := fun k => w.heap.size ≤ k) (H7.out.2.andThen HK.out.2 (fun i hi e => by omega)) (fun k hk h => by omega) (Nat.le_refl _)⟩
  · go_wp2_with (first | (go_at_call 26; refine (hN _).mono ?_; clear hN; rintro e wn ⟨rfl, rfl⟩) | (go_at_call 33; refine (HC0.out _ r H3.out.rd).mono ?_; rintro e u0 ⟨rfl, r5, s5⟩; have k5 := H3.out.req.stay s5 (fun e => by omega); have e00 : u0.cell? ⟨g, 0, none⟩ = some (.int .i64 m) := k5.cell rfl; have f00 := k5.free 0; have e01 : u0.cell? ⟨g, 1, none⟩ = some (.int .i64 0) := k5.cell rfl; have f01 := k5.free 1; have e02 : u0.cell? ⟨g, 2, none⟩ = some (.string ⟨#[]⟩) := k5.cell rfl; have f02 := k5.free 2; have e03 : u0.cell? ⟨g, 3, none⟩ = some (.int .i64 0) := k5.cell rfl; have f03 := k5.free 3; have e04 : u0.cell? ⟨g, 4, none⟩ = some (.int .i64 0) := k5.cell rfl; have f04 := k5.free 4; have H50 := Hid.mk (H3.out.step r5 s5 1 (.int .i64 v0)); clear k5 r5 s5) | (go_at_call 35; refine (HE.out _ r H50.out.rd).mono ?_; rintro e w7 ⟨rfl, s7⟩; have k7 := H50.out.res.stay s7 (fun e => by omega); have g7 := H50.out.req.stay s7 (fun e => by omega); have t7 := H50.out.old.andThen s7 (fun i hi e => by omega); have q0 : w7.cell? ⟨w.heap.size, 0, none⟩ = some (.int .i64 0) := k7.cell rfl; have z0 := k7.free 0; have q1 : w7.cell? ⟨w.heap.size, 1, none⟩ = some (.int .i64 0) := k7.cell rfl; have z1 := k7.free 1; have q2 : w7.cell? ⟨w.heap.size, 2, none⟩ = some (.string ⟨#[]⟩) := k7.cell rfl; have z2 := k7.free 2; have q3 : w7.cell? ⟨w.heap.size, 3, none⟩ = some (.int .i64 0) := k7.cell rfl; have z3 := k7.free 3; have q4 : w7.cell? ⟨w.heap.size, 4, none⟩ = some (.int .i64 0) := k7.cell rfl; have z4 := k7.free 4; have b0 : w7.cell? ⟨g, 0, none⟩ = some (.int .i64 m) := g7.cell rfl; have b1 : w7.cell? ⟨g, 1, none⟩ = some (.int .i64 v0) := g7.cell rfl; have b2 : w7.cell? ⟨g, 2, none⟩ = some (.string ⟨#[]⟩) := g7.cell rfl; have b3 : w7.cell? ⟨g, 3, none⟩ = some (.int .i64 0) := g7.cell rfl; have b4 : w7.cell? ⟨g, 4, none⟩ = some (.int .i64 0) := g7.cell rfl; have H7 := Hid.mk (And.intro k7 t7); clear k7 g7 t7 s7))
    obtain ⟨K9, S9⟩ := put5 H7.out.1 (.int .i64 0) (.int .i64 0) (.string ⟨#[]⟩) (.int .i64 0) (.int .i64 0)
    have HK := Hid.mk (And.intro K9 S9)
    clear K9 S9
    obtain ⟨W9, hW9⟩ : ∃ W9, W9 = (((((w7.setCell ⟨w.heap.size, 0, none⟩ (.int .i64 0)).setCell ⟨w.heap.size, 1, none⟩ (.int .i64 0)).setCell ⟨w.heap.size, 2, none⟩ (.string ⟨#[]⟩)).setCell ⟨w.heap.size, 3, none⟩ (.int .i64 0)).setCell ⟨w.heap.size, 4, none⟩ (.int .i64 0)) := ⟨_, rfl⟩
    rw [← hW9] at HK ⊢
    have a0 : W9.cell? ⟨w.heap.size, 0, none⟩ = some (.int .i64 0) := HK.out.1.cell rfl
    have a1 : W9.cell? ⟨w.heap.size, 1, none⟩ = some (.int .i64 0) := HK.out.1.cell rfl
    have a2 : W9.cell? ⟨w.heap.size, 2, none⟩ = some (.string ⟨#[]⟩) := HK.out.1.cell rfl
    have a3 : W9.cell? ⟨w.heap.size, 3, none⟩ = some (.int .i64 0) := HK.out.1.cell rfl
    have a4 : W9.cell? ⟨w.heap.size, 4, none⟩ = some (.int .i64 0) := HK.out.1.cell rfl
    refine bodyPost_ret (v := .tuple #[.agg #[(.int .i64 0), (.int .i64 0), (.string ⟨#[]⟩), (.int .i64 0), (.int .i64 0)], .int .i64 x]) (by simp [results, Try.results12, go_sem, a0, a1, a2, a3, a4]; try rfl) rfl ?_
    refine ⟨by rw [HA.out, if_pos hx0]; try rfl, Stay.toBelow (F := fun k => w.heap.size ≤ k) (H7.out.2.andThen HK.out.2 (fun i hi e => by omega)) (fun k hk h => by omega) (Nat.le_refl _)⟩
set_option maxHeartbeats 4000000 in
set_option maxRecDepth 100000 in
/-- The document's Asked, class C. -/
theorem rasked_C (b : ByteArray) (w : World) (hb : b.size < 4611686018427387904) (m : Nat) (x0 : Int) (hbg : bgN 81 b = m) (hx0 : (hdX 81 b).1 = x0) (A3 : Nat × Fs × Int)
    (hA3 : A3 = if endE b (rdN b (rdT b (2, x0)).2).2 ≠ 0 then (0, zFs, endE b (rdN b (rdT b (2, x0)).2).2) else (m, ⟨0, (rdT b (2, x0)).1, (rdN b (rdT b (2, x0)).2).1, 0⟩, 0))
    (hN : ∀ W, Calls Try.prog 26 #[.int .i64 m] W fun e w' => e = .returned (.tuple #[.bool false, .bool true, .bool true, .bool false]) ∧ w' = W) :
    Calls Try.prog 12 #[.string b] w fun e w' => e = .returned (.tuple #[.agg (rqC A3.1 A3.2.1), .int .i64 A3.2.2]) ∧ Below w.heap.size w w' := by
  obtain ⟨q2, r2, z2, s2⟩ := rtwo_new w b
  have hbe := begun_any 81 b _ _ hb r2
  rw [hbg, hx0] at hbe
  have hc0 := fun W r h => rrtext_any b (2, x0) W r hb h
  obtain ⟨v0, t0, hv0⟩ : ∃ v t, rdT b (2, x0) = (v, t) := ⟨_, _, rfl⟩
  simp only [hv0] at hc0 hA3
  have hc1 := fun W r h => rany_any b t0 W r hb h
  obtain ⟨v1, t1, hv1⟩ : ∃ v t, rdN b t0 = (v, t) := ⟨_, _, rfl⟩
  simp only [hv1] at hc1 hA3
  have hen := fun W r h => ended_any b t1 W r hb h
  obtain ⟨x, hxe⟩ : ∃ x, x = endE b t1 := ⟨_, rfl⟩
  rw [← hxe] at hA3 hen
  obtain ⟨r, hr⟩ : ∃ r, r = w.heap.size + 1 := ⟨_, rfl⟩
  rw [← hr] at hbe r2
  have hrl : w.heap.size < r := by omega
  obtain ⟨V, hV⟩ : ∃ V, V = ((w.alloc (.cells #[.int .i64 0, .int .i64 0, .string ⟨#[]⟩, .int .i64 0, .int .i64 0] 23)).alloc (.cells #[.string b, .int .i64 0, .int .i64 0] 85)) := ⟨_, rfl⟩
  have hVz : V.heap.size = w.heap.size + 2 := by rw [hV]; exact z2
  rw [← hV] at hbe r2 q2 s2
  have hr2 : (w.alloc (.cells #[.int .i64 0, .int .i64 0, .string ⟨#[]⟩, .int .i64 0, .int .i64 0] 23)).heap.size = r := by rw [hr]; simp
  have HH := Hid.mk (And.intro q2 (And.intro s2 (And.intro hr hVz)))
  have HV := Hid.mk hV
  have HA := Hid.mk hA3
  have HE := Hid.mk hen
  have HC0 := Hid.mk hc0
  have HC1 := Hid.mk hc1
  clear hA3 hen hxe r2 q2 s2 z2 hr hVz hV hbg hx0 hc0 hv0 hc1 hv1
  go_enter Try.func12, Try.ntmps12
  go_wp2_with (first | (go_at_call 32; (try rw [← HV.out]); refine hbe.mono ?_; clear hbe; rintro e w3 ⟨rfl, r3, s3⟩; have H3 := Hid.mk (qb_new #[.int .i64 m, .int .i64 0, .string ⟨#[]⟩, .int .i64 0, .int .i64 0] (HH.out.1.stay s3 (fun e => by omega)) r3 hrl (HH.out.2.1.andThen s3 (fun i hi e => by omega))); clear r3 s3))
  obtain ⟨V4, hV4⟩ : ∃ V4, V4 = w3.alloc (.cells #[.int .i64 m, .int .i64 0, .string ⟨#[]⟩, .int .i64 0, .int .i64 0] 23) := ⟨_, rfl⟩
  have hV5 : w3.alloc (.cells #[.int .i64 m, .int .i64 0, .string ⟨#[]⟩, .int .i64 0, .int .i64 0] 23) = V4 := hV4.symm
  rw [hV5]
  rw [← hV4] at H3
  obtain ⟨g, hg⟩ : ∃ g, g = w3.heap.size := ⟨_, rfl⟩
  simp only [← hg]
  rw [← hg] at H3
  have hrg : r < g := H3.out.lg
  clear hV4 hV5 hg HH HV hr2
  have y0 : V4.cell? ⟨g, 0, none⟩ = some (.int .i64 m) := H3.out.req.cell rfl
  have y1 : V4.cell? ⟨g, 1, none⟩ = some (.int .i64 0) := H3.out.req.cell rfl
  have y2 : V4.cell? ⟨g, 2, none⟩ = some (.string ⟨#[]⟩) := H3.out.req.cell rfl
  have y3 : V4.cell? ⟨g, 3, none⟩ = some (.int .i64 0) := H3.out.req.cell rfl
  have y4 : V4.cell? ⟨g, 4, none⟩ = some (.int .i64 0) := H3.out.req.cell rfl
  by_cases hx0 : x = 0
  · subst hx0
    go_wp2_with (first | (go_at_call 26; refine (hN _).mono ?_; clear hN; rintro e wn ⟨rfl, rfl⟩) | (go_at_call 34; refine (HC0.out _ r H3.out.rd).mono ?_; rintro e u0 ⟨rfl, r5, s5⟩; have k5 := H3.out.req.stay s5 (fun e => by omega); have e00 : u0.cell? ⟨g, 0, none⟩ = some (.int .i64 m) := k5.cell rfl; have f00 := k5.free 0; have e01 : u0.cell? ⟨g, 1, none⟩ = some (.int .i64 0) := k5.cell rfl; have f01 := k5.free 1; have e02 : u0.cell? ⟨g, 2, none⟩ = some (.string ⟨#[]⟩) := k5.cell rfl; have f02 := k5.free 2; have e03 : u0.cell? ⟨g, 3, none⟩ = some (.int .i64 0) := k5.cell rfl; have f03 := k5.free 3; have e04 : u0.cell? ⟨g, 4, none⟩ = some (.int .i64 0) := k5.cell rfl; have f04 := k5.free 4; have H50 := Hid.mk (H3.out.step r5 s5 2 (Tx v0)); clear k5 r5 s5) | (go_at_call 33; refine (HC1.out _ r H50.out.rd).mono ?_; rintro e u1 ⟨rfl, r5, s5⟩; have k5 := H50.out.req.stay s5 (fun e => by omega); have e10 : u1.cell? ⟨g, 0, none⟩ = some (.int .i64 m) := k5.cell rfl; have f10 := k5.free 0; have e11 : u1.cell? ⟨g, 1, none⟩ = some (.int .i64 0) := k5.cell rfl; have f11 := k5.free 1; have e12 : u1.cell? ⟨g, 2, none⟩ = some (Tx v0) := k5.cell rfl; have f12 := k5.free 2; have e13 : u1.cell? ⟨g, 3, none⟩ = some (.int .i64 0) := k5.cell rfl; have f13 := k5.free 3; have e14 : u1.cell? ⟨g, 4, none⟩ = some (.int .i64 0) := k5.cell rfl; have f14 := k5.free 4; have H51 := Hid.mk (H50.out.step r5 s5 3 (.int .i64 v1)); clear k5 r5 s5) | (go_at_call 35; refine (HE.out _ r H51.out.rd).mono ?_; rintro e w7 ⟨rfl, s7⟩; have k7 := H51.out.res.stay s7 (fun e => by omega); have g7 := H51.out.req.stay s7 (fun e => by omega); have t7 := H51.out.old.andThen s7 (fun i hi e => by omega); have q0 : w7.cell? ⟨w.heap.size, 0, none⟩ = some (.int .i64 0) := k7.cell rfl; have z0 := k7.free 0; have q1 : w7.cell? ⟨w.heap.size, 1, none⟩ = some (.int .i64 0) := k7.cell rfl; have z1 := k7.free 1; have q2 : w7.cell? ⟨w.heap.size, 2, none⟩ = some (.string ⟨#[]⟩) := k7.cell rfl; have z2 := k7.free 2; have q3 : w7.cell? ⟨w.heap.size, 3, none⟩ = some (.int .i64 0) := k7.cell rfl; have z3 := k7.free 3; have q4 : w7.cell? ⟨w.heap.size, 4, none⟩ = some (.int .i64 0) := k7.cell rfl; have z4 := k7.free 4; have b0 : w7.cell? ⟨g, 0, none⟩ = some (.int .i64 m) := g7.cell rfl; have b1 : w7.cell? ⟨g, 1, none⟩ = some (.int .i64 0) := g7.cell rfl; have b2 : w7.cell? ⟨g, 2, none⟩ = some (Tx v0) := g7.cell rfl; have b3 : w7.cell? ⟨g, 3, none⟩ = some (.int .i64 v1) := g7.cell rfl; have b4 : w7.cell? ⟨g, 4, none⟩ = some (.int .i64 0) := g7.cell rfl; have H7 := Hid.mk (And.intro k7 t7); clear k7 g7 t7 s7))
    obtain ⟨K9, S9⟩ := put5 H7.out.1 (.int .i64 m) (.int .i64 0) (Tx v0) (.int .i64 v1) (.int .i64 0)
    have HK := Hid.mk (And.intro K9 S9)
    clear K9 S9
    obtain ⟨W9, hW9⟩ : ∃ W9, W9 = (((((w7.setCell ⟨w.heap.size, 0, none⟩ (.int .i64 m)).setCell ⟨w.heap.size, 1, none⟩ (.int .i64 0)).setCell ⟨w.heap.size, 2, none⟩ (Tx v0)).setCell ⟨w.heap.size, 3, none⟩ (.int .i64 v1)).setCell ⟨w.heap.size, 4, none⟩ (.int .i64 0)) := ⟨_, rfl⟩
    rw [← hW9] at HK ⊢
    have a0 : W9.cell? ⟨w.heap.size, 0, none⟩ = some (.int .i64 m) := HK.out.1.cell rfl
    have a1 : W9.cell? ⟨w.heap.size, 1, none⟩ = some (.int .i64 0) := HK.out.1.cell rfl
    have a2 : W9.cell? ⟨w.heap.size, 2, none⟩ = some (Tx v0) := HK.out.1.cell rfl
    have a3 : W9.cell? ⟨w.heap.size, 3, none⟩ = some (.int .i64 v1) := HK.out.1.cell rfl
    have a4 : W9.cell? ⟨w.heap.size, 4, none⟩ = some (.int .i64 0) := HK.out.1.cell rfl
    refine bodyPost_ret (v := .tuple #[.agg #[(.int .i64 m), (.int .i64 0), (Tx v0), (.int .i64 v1), (.int .i64 0)], .int .i64 0]) (by simp [results, Try.results12, go_sem, a0, a1, a2, a3, a4]; try rfl) rfl ?_
    refine ⟨by rw [HA.out, if_neg (fun h => h rfl)]; try rfl, Stay.toBelow (F := fun k => w.heap.size ≤ k) (H7.out.2.andThen HK.out.2 (fun i hi e => by omega)) (fun k hk h => by omega) (Nat.le_refl _)⟩
  · go_wp2_with (first | (go_at_call 26; refine (hN _).mono ?_; clear hN; rintro e wn ⟨rfl, rfl⟩) | (go_at_call 34; refine (HC0.out _ r H3.out.rd).mono ?_; rintro e u0 ⟨rfl, r5, s5⟩; have k5 := H3.out.req.stay s5 (fun e => by omega); have e00 : u0.cell? ⟨g, 0, none⟩ = some (.int .i64 m) := k5.cell rfl; have f00 := k5.free 0; have e01 : u0.cell? ⟨g, 1, none⟩ = some (.int .i64 0) := k5.cell rfl; have f01 := k5.free 1; have e02 : u0.cell? ⟨g, 2, none⟩ = some (.string ⟨#[]⟩) := k5.cell rfl; have f02 := k5.free 2; have e03 : u0.cell? ⟨g, 3, none⟩ = some (.int .i64 0) := k5.cell rfl; have f03 := k5.free 3; have e04 : u0.cell? ⟨g, 4, none⟩ = some (.int .i64 0) := k5.cell rfl; have f04 := k5.free 4; have H50 := Hid.mk (H3.out.step r5 s5 2 (Tx v0)); clear k5 r5 s5) | (go_at_call 33; refine (HC1.out _ r H50.out.rd).mono ?_; rintro e u1 ⟨rfl, r5, s5⟩; have k5 := H50.out.req.stay s5 (fun e => by omega); have e10 : u1.cell? ⟨g, 0, none⟩ = some (.int .i64 m) := k5.cell rfl; have f10 := k5.free 0; have e11 : u1.cell? ⟨g, 1, none⟩ = some (.int .i64 0) := k5.cell rfl; have f11 := k5.free 1; have e12 : u1.cell? ⟨g, 2, none⟩ = some (Tx v0) := k5.cell rfl; have f12 := k5.free 2; have e13 : u1.cell? ⟨g, 3, none⟩ = some (.int .i64 0) := k5.cell rfl; have f13 := k5.free 3; have e14 : u1.cell? ⟨g, 4, none⟩ = some (.int .i64 0) := k5.cell rfl; have f14 := k5.free 4; have H51 := Hid.mk (H50.out.step r5 s5 3 (.int .i64 v1)); clear k5 r5 s5) | (go_at_call 35; refine (HE.out _ r H51.out.rd).mono ?_; rintro e w7 ⟨rfl, s7⟩; have k7 := H51.out.res.stay s7 (fun e => by omega); have g7 := H51.out.req.stay s7 (fun e => by omega); have t7 := H51.out.old.andThen s7 (fun i hi e => by omega); have q0 : w7.cell? ⟨w.heap.size, 0, none⟩ = some (.int .i64 0) := k7.cell rfl; have z0 := k7.free 0; have q1 : w7.cell? ⟨w.heap.size, 1, none⟩ = some (.int .i64 0) := k7.cell rfl; have z1 := k7.free 1; have q2 : w7.cell? ⟨w.heap.size, 2, none⟩ = some (.string ⟨#[]⟩) := k7.cell rfl; have z2 := k7.free 2; have q3 : w7.cell? ⟨w.heap.size, 3, none⟩ = some (.int .i64 0) := k7.cell rfl; have z3 := k7.free 3; have q4 : w7.cell? ⟨w.heap.size, 4, none⟩ = some (.int .i64 0) := k7.cell rfl; have z4 := k7.free 4; have b0 : w7.cell? ⟨g, 0, none⟩ = some (.int .i64 m) := g7.cell rfl; have b1 : w7.cell? ⟨g, 1, none⟩ = some (.int .i64 0) := g7.cell rfl; have b2 : w7.cell? ⟨g, 2, none⟩ = some (Tx v0) := g7.cell rfl; have b3 : w7.cell? ⟨g, 3, none⟩ = some (.int .i64 v1) := g7.cell rfl; have b4 : w7.cell? ⟨g, 4, none⟩ = some (.int .i64 0) := g7.cell rfl; have H7 := Hid.mk (And.intro k7 t7); clear k7 g7 t7 s7))
    obtain ⟨K9, S9⟩ := put5 H7.out.1 (.int .i64 0) (.int .i64 0) (.string ⟨#[]⟩) (.int .i64 0) (.int .i64 0)
    have HK := Hid.mk (And.intro K9 S9)
    clear K9 S9
    obtain ⟨W9, hW9⟩ : ∃ W9, W9 = (((((w7.setCell ⟨w.heap.size, 0, none⟩ (.int .i64 0)).setCell ⟨w.heap.size, 1, none⟩ (.int .i64 0)).setCell ⟨w.heap.size, 2, none⟩ (.string ⟨#[]⟩)).setCell ⟨w.heap.size, 3, none⟩ (.int .i64 0)).setCell ⟨w.heap.size, 4, none⟩ (.int .i64 0)) := ⟨_, rfl⟩
    rw [← hW9] at HK ⊢
    have a0 : W9.cell? ⟨w.heap.size, 0, none⟩ = some (.int .i64 0) := HK.out.1.cell rfl
    have a1 : W9.cell? ⟨w.heap.size, 1, none⟩ = some (.int .i64 0) := HK.out.1.cell rfl
    have a2 : W9.cell? ⟨w.heap.size, 2, none⟩ = some (.string ⟨#[]⟩) := HK.out.1.cell rfl
    have a3 : W9.cell? ⟨w.heap.size, 3, none⟩ = some (.int .i64 0) := HK.out.1.cell rfl
    have a4 : W9.cell? ⟨w.heap.size, 4, none⟩ = some (.int .i64 0) := HK.out.1.cell rfl
    refine bodyPost_ret (v := .tuple #[.agg #[(.int .i64 0), (.int .i64 0), (.string ⟨#[]⟩), (.int .i64 0), (.int .i64 0)], .int .i64 x]) (by simp [results, Try.results12, go_sem, a0, a1, a2, a3, a4]; try rfl) rfl ?_
    refine ⟨by rw [HA.out, if_pos hx0]; try rfl, Stay.toBelow (F := fun k => w.heap.size ≤ k) (H7.out.2.andThen HK.out.2 (fun i hi e => by omega)) (fun k hk h => by omega) (Nat.le_refl _)⟩
set_option maxHeartbeats 4000000 in
set_option maxRecDepth 100000 in
/-- The document's Asked, class D. -/
theorem rasked_D (b : ByteArray) (w : World) (hb : b.size < 4611686018427387904) (m : Nat) (x0 : Int) (hbg : bgN 81 b = m) (hx0 : (hdX 81 b).1 = x0) (A3 : Nat × Fs × Int)
    (hA3 : A3 = if endE b (rdN b (rdT b (2, x0)).2).2 ≠ 0 then (0, zFs, endE b (rdN b (rdT b (2, x0)).2).2) else (m, ⟨0, (rdT b (2, x0)).1, 0, (rdN b (rdT b (2, x0)).2).1⟩, 0))
    (hN : ∀ W, Calls Try.prog 26 #[.int .i64 m] W fun e w' => e = .returned (.tuple #[.bool false, .bool true, .bool false, .bool true]) ∧ w' = W) :
    Calls Try.prog 12 #[.string b] w fun e w' => e = .returned (.tuple #[.agg (rqC A3.1 A3.2.1), .int .i64 A3.2.2]) ∧ Below w.heap.size w w' := by
  obtain ⟨q2, r2, z2, s2⟩ := rtwo_new w b
  have hbe := begun_any 81 b _ _ hb r2
  rw [hbg, hx0] at hbe
  have hc0 := fun W r h => rrtext_any b (2, x0) W r hb h
  obtain ⟨v0, t0, hv0⟩ : ∃ v t, rdT b (2, x0) = (v, t) := ⟨_, _, rfl⟩
  simp only [hv0] at hc0 hA3
  have hc1 := fun W r h => rany_any b t0 W r hb h
  obtain ⟨v1, t1, hv1⟩ : ∃ v t, rdN b t0 = (v, t) := ⟨_, _, rfl⟩
  simp only [hv1] at hc1 hA3
  have hen := fun W r h => ended_any b t1 W r hb h
  obtain ⟨x, hxe⟩ : ∃ x, x = endE b t1 := ⟨_, rfl⟩
  rw [← hxe] at hA3 hen
  obtain ⟨r, hr⟩ : ∃ r, r = w.heap.size + 1 := ⟨_, rfl⟩
  rw [← hr] at hbe r2
  have hrl : w.heap.size < r := by omega
  obtain ⟨V, hV⟩ : ∃ V, V = ((w.alloc (.cells #[.int .i64 0, .int .i64 0, .string ⟨#[]⟩, .int .i64 0, .int .i64 0] 23)).alloc (.cells #[.string b, .int .i64 0, .int .i64 0] 85)) := ⟨_, rfl⟩
  have hVz : V.heap.size = w.heap.size + 2 := by rw [hV]; exact z2
  rw [← hV] at hbe r2 q2 s2
  have hr2 : (w.alloc (.cells #[.int .i64 0, .int .i64 0, .string ⟨#[]⟩, .int .i64 0, .int .i64 0] 23)).heap.size = r := by rw [hr]; simp
  have HH := Hid.mk (And.intro q2 (And.intro s2 (And.intro hr hVz)))
  have HV := Hid.mk hV
  have HA := Hid.mk hA3
  have HE := Hid.mk hen
  have HC0 := Hid.mk hc0
  have HC1 := Hid.mk hc1
  clear hA3 hen hxe r2 q2 s2 z2 hr hVz hV hbg hx0 hc0 hv0 hc1 hv1
  go_enter Try.func12, Try.ntmps12
  go_wp2_with (first | (go_at_call 32; (try rw [← HV.out]); refine hbe.mono ?_; clear hbe; rintro e w3 ⟨rfl, r3, s3⟩; have H3 := Hid.mk (qb_new #[.int .i64 m, .int .i64 0, .string ⟨#[]⟩, .int .i64 0, .int .i64 0] (HH.out.1.stay s3 (fun e => by omega)) r3 hrl (HH.out.2.1.andThen s3 (fun i hi e => by omega))); clear r3 s3))
  obtain ⟨V4, hV4⟩ : ∃ V4, V4 = w3.alloc (.cells #[.int .i64 m, .int .i64 0, .string ⟨#[]⟩, .int .i64 0, .int .i64 0] 23) := ⟨_, rfl⟩
  have hV5 : w3.alloc (.cells #[.int .i64 m, .int .i64 0, .string ⟨#[]⟩, .int .i64 0, .int .i64 0] 23) = V4 := hV4.symm
  rw [hV5]
  rw [← hV4] at H3
  obtain ⟨g, hg⟩ : ∃ g, g = w3.heap.size := ⟨_, rfl⟩
  simp only [← hg]
  rw [← hg] at H3
  have hrg : r < g := H3.out.lg
  clear hV4 hV5 hg HH HV hr2
  have y0 : V4.cell? ⟨g, 0, none⟩ = some (.int .i64 m) := H3.out.req.cell rfl
  have y1 : V4.cell? ⟨g, 1, none⟩ = some (.int .i64 0) := H3.out.req.cell rfl
  have y2 : V4.cell? ⟨g, 2, none⟩ = some (.string ⟨#[]⟩) := H3.out.req.cell rfl
  have y3 : V4.cell? ⟨g, 3, none⟩ = some (.int .i64 0) := H3.out.req.cell rfl
  have y4 : V4.cell? ⟨g, 4, none⟩ = some (.int .i64 0) := H3.out.req.cell rfl
  by_cases hx0 : x = 0
  · subst hx0
    go_wp2_with (first | (go_at_call 26; refine (hN _).mono ?_; clear hN; rintro e wn ⟨rfl, rfl⟩) | (go_at_call 34; refine (HC0.out _ r H3.out.rd).mono ?_; rintro e u0 ⟨rfl, r5, s5⟩; have k5 := H3.out.req.stay s5 (fun e => by omega); have e00 : u0.cell? ⟨g, 0, none⟩ = some (.int .i64 m) := k5.cell rfl; have f00 := k5.free 0; have e01 : u0.cell? ⟨g, 1, none⟩ = some (.int .i64 0) := k5.cell rfl; have f01 := k5.free 1; have e02 : u0.cell? ⟨g, 2, none⟩ = some (.string ⟨#[]⟩) := k5.cell rfl; have f02 := k5.free 2; have e03 : u0.cell? ⟨g, 3, none⟩ = some (.int .i64 0) := k5.cell rfl; have f03 := k5.free 3; have e04 : u0.cell? ⟨g, 4, none⟩ = some (.int .i64 0) := k5.cell rfl; have f04 := k5.free 4; have H50 := Hid.mk (H3.out.step r5 s5 2 (Tx v0)); clear k5 r5 s5) | (go_at_call 33; refine (HC1.out _ r H50.out.rd).mono ?_; rintro e u1 ⟨rfl, r5, s5⟩; have k5 := H50.out.req.stay s5 (fun e => by omega); have e10 : u1.cell? ⟨g, 0, none⟩ = some (.int .i64 m) := k5.cell rfl; have f10 := k5.free 0; have e11 : u1.cell? ⟨g, 1, none⟩ = some (.int .i64 0) := k5.cell rfl; have f11 := k5.free 1; have e12 : u1.cell? ⟨g, 2, none⟩ = some (Tx v0) := k5.cell rfl; have f12 := k5.free 2; have e13 : u1.cell? ⟨g, 3, none⟩ = some (.int .i64 0) := k5.cell rfl; have f13 := k5.free 3; have e14 : u1.cell? ⟨g, 4, none⟩ = some (.int .i64 0) := k5.cell rfl; have f14 := k5.free 4; have H51 := Hid.mk (H50.out.step r5 s5 4 (.int .i64 v1)); clear k5 r5 s5) | (go_at_call 35; refine (HE.out _ r H51.out.rd).mono ?_; rintro e w7 ⟨rfl, s7⟩; have k7 := H51.out.res.stay s7 (fun e => by omega); have g7 := H51.out.req.stay s7 (fun e => by omega); have t7 := H51.out.old.andThen s7 (fun i hi e => by omega); have q0 : w7.cell? ⟨w.heap.size, 0, none⟩ = some (.int .i64 0) := k7.cell rfl; have z0 := k7.free 0; have q1 : w7.cell? ⟨w.heap.size, 1, none⟩ = some (.int .i64 0) := k7.cell rfl; have z1 := k7.free 1; have q2 : w7.cell? ⟨w.heap.size, 2, none⟩ = some (.string ⟨#[]⟩) := k7.cell rfl; have z2 := k7.free 2; have q3 : w7.cell? ⟨w.heap.size, 3, none⟩ = some (.int .i64 0) := k7.cell rfl; have z3 := k7.free 3; have q4 : w7.cell? ⟨w.heap.size, 4, none⟩ = some (.int .i64 0) := k7.cell rfl; have z4 := k7.free 4; have b0 : w7.cell? ⟨g, 0, none⟩ = some (.int .i64 m) := g7.cell rfl; have b1 : w7.cell? ⟨g, 1, none⟩ = some (.int .i64 0) := g7.cell rfl; have b2 : w7.cell? ⟨g, 2, none⟩ = some (Tx v0) := g7.cell rfl; have b3 : w7.cell? ⟨g, 3, none⟩ = some (.int .i64 0) := g7.cell rfl; have b4 : w7.cell? ⟨g, 4, none⟩ = some (.int .i64 v1) := g7.cell rfl; have H7 := Hid.mk (And.intro k7 t7); clear k7 g7 t7 s7))
    obtain ⟨K9, S9⟩ := put5 H7.out.1 (.int .i64 m) (.int .i64 0) (Tx v0) (.int .i64 0) (.int .i64 v1)
    have HK := Hid.mk (And.intro K9 S9)
    clear K9 S9
    obtain ⟨W9, hW9⟩ : ∃ W9, W9 = (((((w7.setCell ⟨w.heap.size, 0, none⟩ (.int .i64 m)).setCell ⟨w.heap.size, 1, none⟩ (.int .i64 0)).setCell ⟨w.heap.size, 2, none⟩ (Tx v0)).setCell ⟨w.heap.size, 3, none⟩ (.int .i64 0)).setCell ⟨w.heap.size, 4, none⟩ (.int .i64 v1)) := ⟨_, rfl⟩
    rw [← hW9] at HK ⊢
    have a0 : W9.cell? ⟨w.heap.size, 0, none⟩ = some (.int .i64 m) := HK.out.1.cell rfl
    have a1 : W9.cell? ⟨w.heap.size, 1, none⟩ = some (.int .i64 0) := HK.out.1.cell rfl
    have a2 : W9.cell? ⟨w.heap.size, 2, none⟩ = some (Tx v0) := HK.out.1.cell rfl
    have a3 : W9.cell? ⟨w.heap.size, 3, none⟩ = some (.int .i64 0) := HK.out.1.cell rfl
    have a4 : W9.cell? ⟨w.heap.size, 4, none⟩ = some (.int .i64 v1) := HK.out.1.cell rfl
    refine bodyPost_ret (v := .tuple #[.agg #[(.int .i64 m), (.int .i64 0), (Tx v0), (.int .i64 0), (.int .i64 v1)], .int .i64 0]) (by simp [results, Try.results12, go_sem, a0, a1, a2, a3, a4]; try rfl) rfl ?_
    refine ⟨by rw [HA.out, if_neg (fun h => h rfl)]; try rfl, Stay.toBelow (F := fun k => w.heap.size ≤ k) (H7.out.2.andThen HK.out.2 (fun i hi e => by omega)) (fun k hk h => by omega) (Nat.le_refl _)⟩
  · go_wp2_with (first | (go_at_call 26; refine (hN _).mono ?_; clear hN; rintro e wn ⟨rfl, rfl⟩) | (go_at_call 34; refine (HC0.out _ r H3.out.rd).mono ?_; rintro e u0 ⟨rfl, r5, s5⟩; have k5 := H3.out.req.stay s5 (fun e => by omega); have e00 : u0.cell? ⟨g, 0, none⟩ = some (.int .i64 m) := k5.cell rfl; have f00 := k5.free 0; have e01 : u0.cell? ⟨g, 1, none⟩ = some (.int .i64 0) := k5.cell rfl; have f01 := k5.free 1; have e02 : u0.cell? ⟨g, 2, none⟩ = some (.string ⟨#[]⟩) := k5.cell rfl; have f02 := k5.free 2; have e03 : u0.cell? ⟨g, 3, none⟩ = some (.int .i64 0) := k5.cell rfl; have f03 := k5.free 3; have e04 : u0.cell? ⟨g, 4, none⟩ = some (.int .i64 0) := k5.cell rfl; have f04 := k5.free 4; have H50 := Hid.mk (H3.out.step r5 s5 2 (Tx v0)); clear k5 r5 s5) | (go_at_call 33; refine (HC1.out _ r H50.out.rd).mono ?_; rintro e u1 ⟨rfl, r5, s5⟩; have k5 := H50.out.req.stay s5 (fun e => by omega); have e10 : u1.cell? ⟨g, 0, none⟩ = some (.int .i64 m) := k5.cell rfl; have f10 := k5.free 0; have e11 : u1.cell? ⟨g, 1, none⟩ = some (.int .i64 0) := k5.cell rfl; have f11 := k5.free 1; have e12 : u1.cell? ⟨g, 2, none⟩ = some (Tx v0) := k5.cell rfl; have f12 := k5.free 2; have e13 : u1.cell? ⟨g, 3, none⟩ = some (.int .i64 0) := k5.cell rfl; have f13 := k5.free 3; have e14 : u1.cell? ⟨g, 4, none⟩ = some (.int .i64 0) := k5.cell rfl; have f14 := k5.free 4; have H51 := Hid.mk (H50.out.step r5 s5 4 (.int .i64 v1)); clear k5 r5 s5) | (go_at_call 35; refine (HE.out _ r H51.out.rd).mono ?_; rintro e w7 ⟨rfl, s7⟩; have k7 := H51.out.res.stay s7 (fun e => by omega); have g7 := H51.out.req.stay s7 (fun e => by omega); have t7 := H51.out.old.andThen s7 (fun i hi e => by omega); have q0 : w7.cell? ⟨w.heap.size, 0, none⟩ = some (.int .i64 0) := k7.cell rfl; have z0 := k7.free 0; have q1 : w7.cell? ⟨w.heap.size, 1, none⟩ = some (.int .i64 0) := k7.cell rfl; have z1 := k7.free 1; have q2 : w7.cell? ⟨w.heap.size, 2, none⟩ = some (.string ⟨#[]⟩) := k7.cell rfl; have z2 := k7.free 2; have q3 : w7.cell? ⟨w.heap.size, 3, none⟩ = some (.int .i64 0) := k7.cell rfl; have z3 := k7.free 3; have q4 : w7.cell? ⟨w.heap.size, 4, none⟩ = some (.int .i64 0) := k7.cell rfl; have z4 := k7.free 4; have b0 : w7.cell? ⟨g, 0, none⟩ = some (.int .i64 m) := g7.cell rfl; have b1 : w7.cell? ⟨g, 1, none⟩ = some (.int .i64 0) := g7.cell rfl; have b2 : w7.cell? ⟨g, 2, none⟩ = some (Tx v0) := g7.cell rfl; have b3 : w7.cell? ⟨g, 3, none⟩ = some (.int .i64 0) := g7.cell rfl; have b4 : w7.cell? ⟨g, 4, none⟩ = some (.int .i64 v1) := g7.cell rfl; have H7 := Hid.mk (And.intro k7 t7); clear k7 g7 t7 s7))
    obtain ⟨K9, S9⟩ := put5 H7.out.1 (.int .i64 0) (.int .i64 0) (.string ⟨#[]⟩) (.int .i64 0) (.int .i64 0)
    have HK := Hid.mk (And.intro K9 S9)
    clear K9 S9
    obtain ⟨W9, hW9⟩ : ∃ W9, W9 = (((((w7.setCell ⟨w.heap.size, 0, none⟩ (.int .i64 0)).setCell ⟨w.heap.size, 1, none⟩ (.int .i64 0)).setCell ⟨w.heap.size, 2, none⟩ (.string ⟨#[]⟩)).setCell ⟨w.heap.size, 3, none⟩ (.int .i64 0)).setCell ⟨w.heap.size, 4, none⟩ (.int .i64 0)) := ⟨_, rfl⟩
    rw [← hW9] at HK ⊢
    have a0 : W9.cell? ⟨w.heap.size, 0, none⟩ = some (.int .i64 0) := HK.out.1.cell rfl
    have a1 : W9.cell? ⟨w.heap.size, 1, none⟩ = some (.int .i64 0) := HK.out.1.cell rfl
    have a2 : W9.cell? ⟨w.heap.size, 2, none⟩ = some (.string ⟨#[]⟩) := HK.out.1.cell rfl
    have a3 : W9.cell? ⟨w.heap.size, 3, none⟩ = some (.int .i64 0) := HK.out.1.cell rfl
    have a4 : W9.cell? ⟨w.heap.size, 4, none⟩ = some (.int .i64 0) := HK.out.1.cell rfl
    refine bodyPost_ret (v := .tuple #[.agg #[(.int .i64 0), (.int .i64 0), (.string ⟨#[]⟩), (.int .i64 0), (.int .i64 0)], .int .i64 x]) (by simp [results, Try.results12, go_sem, a0, a1, a2, a3, a4]; try rfl) rfl ?_
    refine ⟨by rw [HA.out, if_pos hx0]; try rfl, Stay.toBelow (F := fun k => w.heap.size ≤ k) (H7.out.2.andThen HK.out.2 (fun i hi e => by omega)) (fun k hk h => by omega) (Nat.le_refl _)⟩
set_option maxHeartbeats 4000000 in
set_option maxRecDepth 100000 in
/-- The document's Asked, class E. -/
theorem rasked_E (b : ByteArray) (w : World) (hb : b.size < 4611686018427387904) (m : Nat) (x0 : Int) (hbg : bgN 81 b = m) (hx0 : (hdX 81 b).1 = x0) (A3 : Nat × Fs × Int)
    (hA3 : A3 = if endE b (2, x0) ≠ 0 then (0, zFs, endE b (2, x0)) else (m, ⟨0, [], 0, 0⟩, 0))
    (hN : ∀ W, Calls Try.prog 26 #[.int .i64 m] W fun e w' => e = .returned (.tuple #[.bool false, .bool false, .bool false, .bool false]) ∧ w' = W) :
    Calls Try.prog 12 #[.string b] w fun e w' => e = .returned (.tuple #[.agg (rqC A3.1 A3.2.1), .int .i64 A3.2.2]) ∧ Below w.heap.size w w' := by
  obtain ⟨q2, r2, z2, s2⟩ := rtwo_new w b
  have hbe := begun_any 81 b _ _ hb r2
  rw [hbg, hx0] at hbe
  have hen := fun W r h => ended_any b (2, x0) W r hb h
  obtain ⟨x, hxe⟩ : ∃ x, x = endE b (2, x0) := ⟨_, rfl⟩
  rw [← hxe] at hA3 hen
  obtain ⟨r, hr⟩ : ∃ r, r = w.heap.size + 1 := ⟨_, rfl⟩
  rw [← hr] at hbe r2
  have hrl : w.heap.size < r := by omega
  obtain ⟨V, hV⟩ : ∃ V, V = ((w.alloc (.cells #[.int .i64 0, .int .i64 0, .string ⟨#[]⟩, .int .i64 0, .int .i64 0] 23)).alloc (.cells #[.string b, .int .i64 0, .int .i64 0] 85)) := ⟨_, rfl⟩
  have hVz : V.heap.size = w.heap.size + 2 := by rw [hV]; exact z2
  rw [← hV] at hbe r2 q2 s2
  have hr2 : (w.alloc (.cells #[.int .i64 0, .int .i64 0, .string ⟨#[]⟩, .int .i64 0, .int .i64 0] 23)).heap.size = r := by rw [hr]; simp
  have HH := Hid.mk (And.intro q2 (And.intro s2 (And.intro hr hVz)))
  have HV := Hid.mk hV
  have HA := Hid.mk hA3
  have HE := Hid.mk hen
  clear hA3 hen hxe r2 q2 s2 z2 hr hVz hV hbg hx0 
  go_enter Try.func12, Try.ntmps12
  go_wp2_with (first | (go_at_call 32; (try rw [← HV.out]); refine hbe.mono ?_; clear hbe; rintro e w3 ⟨rfl, r3, s3⟩; have H3 := Hid.mk (qb_new #[.int .i64 m, .int .i64 0, .string ⟨#[]⟩, .int .i64 0, .int .i64 0] (HH.out.1.stay s3 (fun e => by omega)) r3 hrl (HH.out.2.1.andThen s3 (fun i hi e => by omega))); clear r3 s3))
  obtain ⟨V4, hV4⟩ : ∃ V4, V4 = w3.alloc (.cells #[.int .i64 m, .int .i64 0, .string ⟨#[]⟩, .int .i64 0, .int .i64 0] 23) := ⟨_, rfl⟩
  have hV5 : w3.alloc (.cells #[.int .i64 m, .int .i64 0, .string ⟨#[]⟩, .int .i64 0, .int .i64 0] 23) = V4 := hV4.symm
  rw [hV5]
  rw [← hV4] at H3
  obtain ⟨g, hg⟩ : ∃ g, g = w3.heap.size := ⟨_, rfl⟩
  simp only [← hg]
  rw [← hg] at H3
  have hrg : r < g := H3.out.lg
  clear hV4 hV5 hg HH HV hr2
  have y0 : V4.cell? ⟨g, 0, none⟩ = some (.int .i64 m) := H3.out.req.cell rfl
  have y1 : V4.cell? ⟨g, 1, none⟩ = some (.int .i64 0) := H3.out.req.cell rfl
  have y2 : V4.cell? ⟨g, 2, none⟩ = some (.string ⟨#[]⟩) := H3.out.req.cell rfl
  have y3 : V4.cell? ⟨g, 3, none⟩ = some (.int .i64 0) := H3.out.req.cell rfl
  have y4 : V4.cell? ⟨g, 4, none⟩ = some (.int .i64 0) := H3.out.req.cell rfl
  by_cases hx0 : x = 0
  · subst hx0
    go_wp2_with (first | (go_at_call 26; refine (hN _).mono ?_; clear hN; rintro e wn ⟨rfl, rfl⟩) | (go_at_call 35; refine (HE.out _ r H3.out.rd).mono ?_; rintro e w7 ⟨rfl, s7⟩; have k7 := H3.out.res.stay s7 (fun e => by omega); have g7 := H3.out.req.stay s7 (fun e => by omega); have t7 := H3.out.old.andThen s7 (fun i hi e => by omega); have q0 : w7.cell? ⟨w.heap.size, 0, none⟩ = some (.int .i64 0) := k7.cell rfl; have z0 := k7.free 0; have q1 : w7.cell? ⟨w.heap.size, 1, none⟩ = some (.int .i64 0) := k7.cell rfl; have z1 := k7.free 1; have q2 : w7.cell? ⟨w.heap.size, 2, none⟩ = some (.string ⟨#[]⟩) := k7.cell rfl; have z2 := k7.free 2; have q3 : w7.cell? ⟨w.heap.size, 3, none⟩ = some (.int .i64 0) := k7.cell rfl; have z3 := k7.free 3; have q4 : w7.cell? ⟨w.heap.size, 4, none⟩ = some (.int .i64 0) := k7.cell rfl; have z4 := k7.free 4; have b0 : w7.cell? ⟨g, 0, none⟩ = some (.int .i64 m) := g7.cell rfl; have b1 : w7.cell? ⟨g, 1, none⟩ = some (.int .i64 0) := g7.cell rfl; have b2 : w7.cell? ⟨g, 2, none⟩ = some (.string ⟨#[]⟩) := g7.cell rfl; have b3 : w7.cell? ⟨g, 3, none⟩ = some (.int .i64 0) := g7.cell rfl; have b4 : w7.cell? ⟨g, 4, none⟩ = some (.int .i64 0) := g7.cell rfl; have H7 := Hid.mk (And.intro k7 t7); clear k7 g7 t7 s7))
    obtain ⟨K9, S9⟩ := put5 H7.out.1 (.int .i64 m) (.int .i64 0) (.string ⟨#[]⟩) (.int .i64 0) (.int .i64 0)
    have HK := Hid.mk (And.intro K9 S9)
    clear K9 S9
    obtain ⟨W9, hW9⟩ : ∃ W9, W9 = (((((w7.setCell ⟨w.heap.size, 0, none⟩ (.int .i64 m)).setCell ⟨w.heap.size, 1, none⟩ (.int .i64 0)).setCell ⟨w.heap.size, 2, none⟩ (.string ⟨#[]⟩)).setCell ⟨w.heap.size, 3, none⟩ (.int .i64 0)).setCell ⟨w.heap.size, 4, none⟩ (.int .i64 0)) := ⟨_, rfl⟩
    rw [← hW9] at HK ⊢
    have a0 : W9.cell? ⟨w.heap.size, 0, none⟩ = some (.int .i64 m) := HK.out.1.cell rfl
    have a1 : W9.cell? ⟨w.heap.size, 1, none⟩ = some (.int .i64 0) := HK.out.1.cell rfl
    have a2 : W9.cell? ⟨w.heap.size, 2, none⟩ = some (.string ⟨#[]⟩) := HK.out.1.cell rfl
    have a3 : W9.cell? ⟨w.heap.size, 3, none⟩ = some (.int .i64 0) := HK.out.1.cell rfl
    have a4 : W9.cell? ⟨w.heap.size, 4, none⟩ = some (.int .i64 0) := HK.out.1.cell rfl
    refine bodyPost_ret (v := .tuple #[.agg #[(.int .i64 m), (.int .i64 0), (.string ⟨#[]⟩), (.int .i64 0), (.int .i64 0)], .int .i64 0]) (by simp [results, Try.results12, go_sem, a0, a1, a2, a3, a4]; try rfl) rfl ?_
    refine ⟨by rw [HA.out, if_neg (fun h => h rfl)]; try rfl, Stay.toBelow (F := fun k => w.heap.size ≤ k) (H7.out.2.andThen HK.out.2 (fun i hi e => by omega)) (fun k hk h => by omega) (Nat.le_refl _)⟩
  · go_wp2_with (first | (go_at_call 26; refine (hN _).mono ?_; clear hN; rintro e wn ⟨rfl, rfl⟩) | (go_at_call 35; refine (HE.out _ r H3.out.rd).mono ?_; rintro e w7 ⟨rfl, s7⟩; have k7 := H3.out.res.stay s7 (fun e => by omega); have g7 := H3.out.req.stay s7 (fun e => by omega); have t7 := H3.out.old.andThen s7 (fun i hi e => by omega); have q0 : w7.cell? ⟨w.heap.size, 0, none⟩ = some (.int .i64 0) := k7.cell rfl; have z0 := k7.free 0; have q1 : w7.cell? ⟨w.heap.size, 1, none⟩ = some (.int .i64 0) := k7.cell rfl; have z1 := k7.free 1; have q2 : w7.cell? ⟨w.heap.size, 2, none⟩ = some (.string ⟨#[]⟩) := k7.cell rfl; have z2 := k7.free 2; have q3 : w7.cell? ⟨w.heap.size, 3, none⟩ = some (.int .i64 0) := k7.cell rfl; have z3 := k7.free 3; have q4 : w7.cell? ⟨w.heap.size, 4, none⟩ = some (.int .i64 0) := k7.cell rfl; have z4 := k7.free 4; have b0 : w7.cell? ⟨g, 0, none⟩ = some (.int .i64 m) := g7.cell rfl; have b1 : w7.cell? ⟨g, 1, none⟩ = some (.int .i64 0) := g7.cell rfl; have b2 : w7.cell? ⟨g, 2, none⟩ = some (.string ⟨#[]⟩) := g7.cell rfl; have b3 : w7.cell? ⟨g, 3, none⟩ = some (.int .i64 0) := g7.cell rfl; have b4 : w7.cell? ⟨g, 4, none⟩ = some (.int .i64 0) := g7.cell rfl; have H7 := Hid.mk (And.intro k7 t7); clear k7 g7 t7 s7))
    obtain ⟨K9, S9⟩ := put5 H7.out.1 (.int .i64 0) (.int .i64 0) (.string ⟨#[]⟩) (.int .i64 0) (.int .i64 0)
    have HK := Hid.mk (And.intro K9 S9)
    clear K9 S9
    obtain ⟨W9, hW9⟩ : ∃ W9, W9 = (((((w7.setCell ⟨w.heap.size, 0, none⟩ (.int .i64 0)).setCell ⟨w.heap.size, 1, none⟩ (.int .i64 0)).setCell ⟨w.heap.size, 2, none⟩ (.string ⟨#[]⟩)).setCell ⟨w.heap.size, 3, none⟩ (.int .i64 0)).setCell ⟨w.heap.size, 4, none⟩ (.int .i64 0)) := ⟨_, rfl⟩
    rw [← hW9] at HK ⊢
    have a0 : W9.cell? ⟨w.heap.size, 0, none⟩ = some (.int .i64 0) := HK.out.1.cell rfl
    have a1 : W9.cell? ⟨w.heap.size, 1, none⟩ = some (.int .i64 0) := HK.out.1.cell rfl
    have a2 : W9.cell? ⟨w.heap.size, 2, none⟩ = some (.string ⟨#[]⟩) := HK.out.1.cell rfl
    have a3 : W9.cell? ⟨w.heap.size, 3, none⟩ = some (.int .i64 0) := HK.out.1.cell rfl
    have a4 : W9.cell? ⟨w.heap.size, 4, none⟩ = some (.int .i64 0) := HK.out.1.cell rfl
    refine bodyPost_ret (v := .tuple #[.agg #[(.int .i64 0), (.int .i64 0), (.string ⟨#[]⟩), (.int .i64 0), (.int .i64 0)], .int .i64 x]) (by simp [results, Try.results12, go_sem, a0, a1, a2, a3, a4]; try rfl) rfl ?_
    refine ⟨by rw [HA.out, if_pos hx0]; try rfl, Stay.toBelow (F := fun k => w.heap.size ≤ k) (H7.out.2.andThen HK.out.2 (fun i hi e => by omega)) (fun k hk h => by omega) (Nat.le_refl _)⟩
theorem rasked_any (b : ByteArray) (w : World) (hb : b.size < 4611686018427387904) :
    Calls Try.prog 12 #[.string b] w fun e w' => e = .returned (.tuple #[.agg (rqC (askedA b).1 (askedA b).2.1), .int .i64 (askedA b).2.2]) ∧ Below w.heap.size w w' := by
  by_cases hx : (hdX 81 b).1 = 0
  · have hm : bgN 81 b = (hdX 81 b).2 + 1 := by unfold bgN; rw [if_pos hx]
    have hA : askedA b = if endE b (rdQ (hdX 81 b).2 b (2, 0)).2 ≠ 0 then (0, zFs, endE b (rdQ (hdX 81 b).2 b (2, 0)).2) else ((hdX 81 b).2 + 1, (rdQ (hdX 81 b).2 b (2, 0)).1, 0) := by unfold askedA; rw [if_neg (fun h => h hx)]
    have hi := hdX_lt 81 b
    have hN := fun W => names_any (hdX 81 b).2 hi W
    obtain ⟨i, hie⟩ : ∃ i, i = (hdX 81 b).2 := ⟨_, rfl⟩
    rw [← hie] at hm hA hi hN
    have hc : i = 0 ∨ i = 1 ∨ i = 2 ∨ i = 3 ∨ i = 4 ∨ i = 5 ∨ i = 6 ∨ i = 7 ∨ i = 8 := by omega
    clear hie
    rcases hc with rfl | rfl | rfl | rfl | rfl | rfl | rfl | rfl | rfl
    · exact rasked_A b w hb _ 0 hm hx _ hA hN
    · exact rasked_B b w hb _ 0 hm hx _ hA hN
    · exact rasked_B b w hb _ 0 hm hx _ hA hN
    · exact rasked_C b w hb _ 0 hm hx _ hA hN
    · exact rasked_D b w hb _ 0 hm hx _ hA hN
    · exact rasked_E b w hb _ 0 hm hx _ hA hN
    · exact rasked_E b w hb _ 0 hm hx _ hA hN
    · exact rasked_E b w hb _ 0 hm hx _ hA hN
    · exact rasked_E b w hb _ 0 hm hx _ hA hN
  · have hm : bgN 81 b = 0 := by unfold bgN; rw [if_neg hx]
    refine rasked_E b w hb 0 _ hm rfl _ ?_ (fun W => names_zero W)
    have he : endE b (2, (hdX 81 b).1) = (hdX 81 b).1 := by unfold endE; rw [if_neg (fun h => hx h.1)]
    rw [he, if_pos hx]
    unfold askedA
    rw [if_pos hx]
end Go.Proofs.Ytnkepggldlobjaa
