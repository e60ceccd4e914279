/-
  DERIVED. The document's own Asked.
-/
import Derived.Test.YtjdknijjkjmafaaWRefR2
set_option linter.unusedVariables false
set_option linter.unusedSimpArgs false
namespace Go.Proofs.Ytjdknijjkjmafaa
open Go.RowKit Go.Proofs.SealMath
def bgN (c : Nat) (b : ByteArray) : Nat := if (hdX c b).1 = 0 then (hdX c b).2 + 1 else 0
set_option maxHeartbeats 4000000 in
set_option maxRecDepth 100000 in
theorem begun_any (c : Nat) (b : ByteArray) (w : World) (r : Nat) (hb : b.size < 4611686018427387904) (h : HC w r #[.string b, .int .i64 0, .int .i64 0] 78) :
    Calls Try.prog 28 #[Pt r, .int .u8 c] w fun e w' => e = .returned (.int .i64 (bgN c b)) ∧ RRd w' r b (2, (hdX c b).1) ∧ Stay (· = r) w w' := by
  have c0 : w.cell? ⟨r, 0, none⟩ = some (.string b) := h.cell rfl
  have c1 : w.cell? ⟨r, 1, none⟩ = some (.int .i64 0) := h.cell rfl
  have z1 := h.free 1
  have hR := fun x => rrefuse_any b 0 0 x w r h
  have HR := Hid.mk hR
  have H0 := Hid.mk h
  clear hR h
  have fin : ∀ {x : Int} {w1 : World}, x ≠ 0 → HC w1 r #[.string b, .int .i64 (0 : Nat), .int .i64 x] 78 → RRd w1 r b (2, x) := fun hx h => ⟨0, h, Nat.zero_le _, fun e => absurd e hx⟩
  have FIN := Hid.mk (fun x w1 => @fin x w1)
  clear fin
  by_cases h0 : b.size = 0
  · have hX : hdX c b = (31, 0) := by unfold hdX; rw [dif_pos h0]
    have hN : bgN c b = 0 := by unfold bgN; rw [hX]; rfl
    rw [hX, hN]
    have h0' : (b.size : Int) = 0 := by omega
    clear hX hN
    go_enter Try.func28, Try.ntmps28
    go_wp2_with (go_at_call 51; refine (HR.out 31).mono ?_; rintro y w1 ⟨rfl, r1, s1⟩; rw [if_pos rfl] at r1; have HX := Hid.mk (And.intro r1 s1); clear r1 s1)
    go_ret
    exact ⟨rfl, FIN.out _ _ (by decide) HX.out.1, HX.out.2⟩
  · have h0' : ¬ (b.size : Int) = 0 := by omega
    have l0 : 0 < b.size := by omega
    have l0' : (0 : Int) < (b.size : Int) := by omega
    obtain ⟨x0, hx0⟩ : ∃ x, x = b[0] := ⟨_, rfl⟩
    have g0 : ∀ (h : 0 < b.size), b[0]'h = x0 := fun _ => hx0.symm
    by_cases hc : x0.toNat = c
    · by_cases h1 : b.size = 1
      · have hX : hdX c b = (31, 0) := by unfold hdX; rw [dif_neg h0, if_neg (fun h => h (by rw [← hx0]; exact hc)), dif_pos h1]
        have hN : bgN c b = 0 := by unfold bgN; rw [hX]; rfl
        rw [hX, hN]
        have h1' : (b.size : Int) = 1 := by omega
        subst hc
        clear hX hN hx0
        go_enter Try.func28, Try.ntmps28
        go_wp2_with (go_at_call 51; refine (HR.out 31).mono ?_; rintro y w1 ⟨rfl, r1, s1⟩; rw [if_pos rfl] at r1; have HX := Hid.mk (And.intro r1 s1); clear r1 s1)
        go_ret
        exact ⟨rfl, FIN.out _ _ (by decide) HX.out.1, HX.out.2⟩
      · have h1' : ¬ (b.size : Int) = 1 := by omega
        have l1 : 1 < b.size := by omega
        have l1' : (1 : Int) < (b.size : Int) := by omega
        obtain ⟨x1, hx1⟩ : ∃ x, x = b[1] := ⟨_, rfl⟩
        have g1 : ∀ (h : 1 < b.size), b[1]'h = x1 := fun _ => hx1.symm
        have hw : wrap64 (x1.toNat : Int) = (x1.toNat : Int) := w64_in _ (by omega) (by have := x1.toNat_lt; omega)
        have HW := Hid.mk hw
        clear hw
        by_cases h3 : 1 ≤ x1.toNat ∧ x1.toNat ≤ 9
        · have hX : hdX c b = (0, x1.toNat - 1) := by unfold hdX; rw [dif_neg h0, if_neg (fun h => h (by rw [← hx0]; exact hc)), dif_neg h1]; simp only [← hx1]; rw [if_pos h3]
          have hN : bgN c b = x1.toNat := by unfold bgN; rw [hX]; simp only [if_true]; omega
          rw [hX, hN]
          have a1 : ¬ (x1.toNat : Int) < 1 := by omega
          have a2 : ¬ (9 : Int) < (x1.toNat : Int) := by omega
          have HL := Hid.mk l1
          subst hc
          have hw := HW.out
          clear hX hN hx0 hx1 h3 HW
          go_enter Try.func28, Try.ntmps28
          go_wp2
          go_ret
          exact ⟨rfl, ⟨2, HC.set H0.out 1 _, HL.out, fun _ => rfl⟩, (Stay.refl (· = r) w).setCell (p := ⟨r, 1, none⟩) (fun _ => rfl) _⟩
        · have hX : hdX c b = (35, 0) := by unfold hdX; rw [dif_neg h0, if_neg (fun h => h (by rw [← hx0]; exact hc)), dif_neg h1]; simp only [← hx1]; rw [if_neg h3]
          have hN : bgN c b = 0 := by unfold bgN; rw [hX]; rfl
          rw [hX, hN]
          subst hc
          by_cases a1 : (x1.toNat : Int) < 1
          · have hw := HW.out
            clear hX hN hx0 hx1 h3 HW
            go_enter Try.func28, Try.ntmps28
            go_wp2_with (go_at_call 51; refine (HR.out 35).mono ?_; rintro y w1 ⟨rfl, r1, s1⟩; rw [if_pos rfl] at r1; have HX := Hid.mk (And.intro r1 s1); clear r1 s1)
            go_ret
            exact ⟨rfl, FIN.out _ _ (by decide) HX.out.1, HX.out.2⟩
          · have a2 : (9 : Int) < (x1.toNat : Int) := by omega
            have hw := HW.out
            clear hX hN hx0 hx1 h3 HW
            go_enter Try.func28, Try.ntmps28
            go_wp2_with (go_at_call 51; refine (HR.out 35).mono ?_; rintro y w1 ⟨rfl, r1, s1⟩; rw [if_pos rfl] at r1; have HX := Hid.mk (And.intro r1 s1); clear r1 s1)
            go_ret
            exact ⟨rfl, FIN.out _ _ (by decide) HX.out.1, HX.out.2⟩
    · have hX : hdX c b = (35, 0) := by unfold hdX; rw [dif_neg h0, if_pos (by rw [← hx0]; exact hc)]
      have hN : bgN c b = 0 := by unfold bgN; rw [hX]; rfl
      rw [hX, hN]
      have hc' : ¬ (x0.toNat : Int) = (c : Int) := by omega
      clear hX hN hx0
      go_enter Try.func28, Try.ntmps28
      go_wp2_with (go_at_call 51; refine (HR.out 35).mono ?_; rintro y w1 ⟨rfl, r1, s1⟩; rw [if_pos rfl] at r1; have HX := Hid.mk (And.intro r1 s1); clear r1 s1)
      go_ret
      exact ⟨rfl, FIN.out _ _ (by decide) HX.out.1, HX.out.2⟩
set_option maxHeartbeats 1000000 in
theorem names_zero (w : World) : Calls Try.prog 43 #[.int .i64 0] w fun e w' => e = .returned (.tuple #[.bool false, .bool false, .bool false, .bool false]) ∧ w' = w := by
  go_enter Try.func43, Try.ntmps43
  go_wp2
  refine bodyPost_ret (v := .tuple #[.bool false, .bool false, .bool false, .bool false]) (by simp [results, Try.results43, go_sem]; try rfl) rfl ?_
  exact ⟨rfl, rfl⟩
theorem rtwo_new (w : World) (b : ByteArray) : HC ((w.alloc (.cells #[.int .i64 0, .int .i64 0, .string ⟨#[]⟩, .int .i64 0, .int .i64 0] 40)).alloc (.cells #[.string b, .int .i64 0, .int .i64 0] 78)) w.heap.size #[.int .i64 0, .int .i64 0, .string ⟨#[]⟩, .int .i64 0, .int .i64 0] 40 ∧ HC ((w.alloc (.cells #[.int .i64 0, .int .i64 0, .string ⟨#[]⟩, .int .i64 0, .int .i64 0] 40)).alloc (.cells #[.string b, .int .i64 0, .int .i64 0] 78)) (w.heap.size + 1) #[.string b, .int .i64 0, .int .i64 0] 78 ∧ ((w.alloc (.cells #[.int .i64 0, .int .i64 0, .string ⟨#[]⟩, .int .i64 0, .int .i64 0] 40)).alloc (.cells #[.string b, .int .i64 0, .int .i64 0] 78)).heap.size = w.heap.size + 2 ∧ Stay (fun k => w.heap.size ≤ k) w ((w.alloc (.cells #[.int .i64 0, .int .i64 0, .string ⟨#[]⟩, .int .i64 0, .int .i64 0] 40)).alloc (.cells #[.string b, .int .i64 0, .int .i64 0] 78)) := by
  refine ⟨HC.alloc (HC.new w _ _) _, ?_, by simp, ((Stay.refl _ w).alloc _).alloc _⟩
  have := HC.new (w.alloc (.cells #[.int .i64 0, .int .i64 0, .string ⟨#[]⟩, .int .i64 0, .int .i64 0] 40)) #[.string b, .int .i64 0, .int .i64 0] 78
  have e : (w.alloc (.cells #[.int .i64 0, .int .i64 0, .string ⟨#[]⟩, .int .i64 0, .int .i64 0] 40)).heap.size = w.heap.size + 1 := by simp
  rw [e] at this
  exact this
/-- The boxes of the document's Asked: the result, the reader, the request. -/
structure QB (w : World) (W : World) (r g : Nat) (b : ByteArray) (s : RS) (C : Array Value) : Prop where
  res : HC W w.heap.size #[.int .i64 0, .int .i64 0, .string ⟨#[]⟩, .int .i64 0, .int .i64 0] 40
  rd : RRd W r b s
  req : HC W g C 40
  lr : w.heap.size < r
  lg : r < g
  old : Stay (fun k => w.heap.size ≤ k) w W
theorem QB.step {w W W1 : World} {r g : Nat} {b : ByteArray} {s s1 : RS} {C : Array Value} (h : QB w W r g b s C) (h1 : RRd W1 r b s1) (st : Stay (· = r) W W1) (o : Nat) (v : Value) : QB w (W1.setCell ⟨g, o, none⟩ v) r g b s1 (C.setIfInBounds o v) := by
  have l1 := h.lr; have l2 := h.lg
  have st2 : Stay (· = g) W1 (W1.setCell ⟨g, o, none⟩ v) := (Stay.refl (· = g) W1).setCell (p := ⟨g, o, none⟩) (fun _ => rfl) v
  exact ⟨(h.res.stay st (fun e => by omega)).stay st2 (fun e => by omega), h1.stay st2 (fun e => by omega), HC.set (h.req.stay st (fun e => by omega)) o v, h.lr, h.lg, (h.old.andThen st (fun i hi e => by omega)).andThen st2 (fun i hi e => by omega)⟩
theorem qb_new {w w3 : World} {r : Nat} {b : ByteArray} {s : RS} (C : Array Value) (h : HC w3 w.heap.size #[.int .i64 0, .int .i64 0, .string ⟨#[]⟩, .int .i64 0, .int .i64 0] 40) (h1 : RRd w3 r b s) (lr : w.heap.size < r) (st : Stay (fun k => w.heap.size ≤ k) w w3) :
    QB w (w3.alloc (.cells C 40)) r w3.heap.size b s C :=
  ⟨h.alloc _, h1.below ((Below.refl _ w3).alloc (Nat.le_refl _) _), HC.new w3 _ _, lr, h1.lt, st.alloc _⟩
end Go.Proofs.Ytjdknijjkjmafaa
