/-
  DERIVED. A reader: the first two bytes.
-/
import Derived.Test.YtjdknijjkjmafaaWRd2
import Derived.Test.YtjdknijjkjmafaaWFind
set_option linter.unusedVariables false
set_option linter.unusedSimpArgs false
namespace Go.Proofs.Ytjdknijjkjmafaa
open Go.RowKit Go.Proofs.SealMath
theorem one_byte (b : ByteArray) (p : Nat) (h : p < b.size) : (⟨(sub b p 1).toArray⟩ : ByteArray) = ⟨#[b[p]]⟩ := by
  rw [sub_cons b p 0 h]; simp [sub]
theorem opr_new (w : World) (C : Array Value) (r : Nat) (hr : r < w.heap.size) {w1 : World} (s : Stay (· = r) (w.alloc (.cells C 64)) w1) : HC w1 w.heap.size C 64 ∧ Stay (· = r) w w1 :=
  ⟨HC.stay (HC.new w C _) s (fun e => by omega), ((Stay.refl _ w).alloc _).trans s⟩
theorem put3 {w : World} {g : Nat} {a0 b0 c0 : Value} {T : TypeId} (h : HC w g #[a0, b0, c0] T) (a b c : Value) : HC (((w.setCell ⟨g, 0, none⟩ a).setCell ⟨g, 1, none⟩ b).setCell ⟨g, 2, none⟩ c) g #[a, b, c] T ∧ Stay (· = g) w (((w.setCell ⟨g, 0, none⟩ a).setCell ⟨g, 1, none⟩ b).setCell ⟨g, 2, none⟩ c) :=
  ⟨HC.set (HC.set (HC.set h 0 a) 1 b) 2 c, (((Stay.refl (· = g) w).setCell (p := ⟨g, 0, none⟩) (fun _ => rfl) a).setCell (p := ⟨g, 1, none⟩) (fun _ => rfl) b).setCell (p := ⟨g, 2, none⟩) (fun _ => rfl) c⟩
set_option maxHeartbeats 4000000 in
set_option maxRecDepth 100000 in
theorem oper_yes (b : ByteArray) (c i : Nat) (w : World) (r : Nat) (hb : b.size < 4611686018427387904) (h2 : 2 ≤ b.size) (hc : (b[0]).toNat = c) (hi : i < 9) (h1 : (b[1]).toNat = i + 1) (h : RdAt w r b (0, 0)) :
    Calls Try.prog 23 #[Pt r, .int .u8 c] w fun e w' => e = .returned (.tuple #[opV i, .bool true]) ∧ RdAt w' r b (2, 0) ∧ Stay (· = r) w w' := by
  have hB0 := fun W (hW : RdAt W r b (0, 0)) => bytes_any b (0, 0) 1 W r hb (Nat.zero_le _) (by omega) hW
  have hB1 := fun W (hW : RdAt W r b (1, 0)) => bytes_any b (1, 0) 1 W r hb (by simp only; omega) (by omega) hW
  have e0 : rdB 1 b (0, 0) = (sub b 0 1, (1, 0)) := by unfold rdB; rw [if_neg (by simp), if_neg (by simp only; omega)]
  have e1 : rdB 1 b (1, 0) = (sub b 1 1, (2, 0)) := by unfold rdB; rw [if_neg (by simp), if_neg (by simp only; omega)]
  rw [e0] at hB0
  rw [e1] at hB1
  simp only [one_byte b 0 (by omega), one_byte b 1 (by omega)] at hB0 hB1
  obtain ⟨x0, hx0⟩ : ∃ x, x = b[0] := ⟨_, rfl⟩
  obtain ⟨x1, hx1⟩ : ∃ x, x = b[1] := ⟨_, rfl⟩
  rw [← hx0] at hB0 hc
  rw [← hx1] at hB1 h1
  subst hc
  have hf := fun W => find_yes i hi W
  rw [← h1] at hf
  have HN := Hid.mk h1
  have HB := Hid.mk (And.intro hB0 hB1)
  have HR := Hid.mk h
  obtain ⟨f1, hf1⟩ : ∃ f, f = rqF i := ⟨_, rfl⟩
  obtain ⟨f2, hf2⟩ : ∃ f, f = rpF i := ⟨_, rfl⟩
  simp only [opV, ← hf1, ← hf2, ← h1] at hf ⊢
  have HF := Hid.mk hf
  have lr := HC.lt h
  have hw : wrap64 (x1.toNat : Int) = (x1.toNat : Int) := w64_in _ (by omega) (by have := x1.toNat_lt; omega)
  clear e0 e1 hx0 hx1 hB0 hB1 h hf h1 hf1 hf2
  have hsf : ∀ (W : World) (p : Addr) (f : Fn) (x c : Array Value), (store p (.func f x c)).run Try.prog W = stored Try.prog W p (.func f x c) .plain := fun W p f x c => run_store Try.prog W p _ .plain rfl
  have hsn : ∀ (W : World) (p : Addr), (store p .nilFunc).run Try.prog W = stored Try.prog W p .nilFunc .plain := fun W p => run_store Try.prog W p _ .plain rfl
  have g0 : ∀ (x : UInt8) (h : 0 < (⟨#[x]⟩ : ByteArray).size), (⟨#[x]⟩ : ByteArray)[0]'h = x := fun x h => rfl
  go_enter Try.func23, Try.ntmps23
  go_wp2_with (first
    | (go_at_call 34; refine (HF.out _).mono ?_; rintro e w3 ⟨rfl, b3⟩; have k3 := HC.below (HC.stay H1.out.1 H2.out.2 (fun e => by omega)) b3; have t0 : w3.cell? ⟨w.heap.size, 0, none⟩ = some (.int .i64 0) := k3.cell rfl; have t1 : w3.cell? ⟨w.heap.size, 1, none⟩ = some .nilFunc := k3.cell rfl; have t2 : w3.cell? ⟨w.heap.size, 2, none⟩ = some .nilFunc := k3.cell rfl; have z0 := k3.free 0; have z1 := k3.free 1; have z2 := k3.free 2; have l3 := k3.lt; have H3 := Hid.mk (And.intro k3 b3); clear k3 b3)
    | (go_at_call 46; refine (HB.out.1 _ (HC.alloc HR.out _)).mono ?_; rintro e w1 ⟨rfl, r1, s1⟩; have H1 := Hid.mk (And.intro (opr_new w _ r lr s1).1 (And.intro r1 (opr_new w _ r lr s1).2)); clear r1 s1 HR)
    | (go_at_call 46; refine (HB.out.2 _ H1.out.2.1).mono ?_; rintro e w2 ⟨rfl, r2, s2⟩; have H2 := Hid.mk (And.intro r2 s2); clear r2 s2))
  have s9 : Stay (· = r) w w3 := (H1.out.2.2.trans H2.out.2).trans (.below H3.out.2)
  obtain ⟨K9, S9⟩ := put3 H3.out.1 (.int .i64 x1.toNat) (Fv f1 #[]) (Fv f2 #[])
  have L9 : w.heap.size < w3.heap.size := HC.lt H3.out.1
  have R9 : RdAt (((w3.setCell ⟨w.heap.size, 0, none⟩ (.int .i64 x1.toNat)).setCell ⟨w.heap.size, 1, none⟩ (Fv f1 #[])).setCell ⟨w.heap.size, 2, none⟩ (Fv f2 #[])) r b (2, 0) := HC.stay (HC.below H2.out.1 H3.out.2) S9 (fun e => by omega)
  have K9 := HC.alloc K9 (.cells #[.int .i64 x1.toNat, Fv f1 #[], Fv f2 #[]] 64)
  have S9 := S9.alloc (.cells #[.int .i64 x1.toNat, Fv f1 #[], Fv f2 #[]] 64)
  have R9 := HC.alloc R9 (.cells #[.int .i64 x1.toNat, Fv f1 #[], Fv f2 #[]] 64)
  obtain ⟨W9, hW9⟩ : ∃ W9, W9 = ((((w3.setCell ⟨w.heap.size, 0, none⟩ (.int .i64 x1.toNat)).setCell ⟨w.heap.size, 1, none⟩ (Fv f1 #[])).setCell ⟨w.heap.size, 2, none⟩ (Fv f2 #[])).alloc (.cells #[.int .i64 x1.toNat, Fv f1 #[], Fv f2 #[]] 64)) := ⟨_, rfl⟩
  rw [← hW9] at K9 S9 R9 ⊢
  have v0 : W9.cell? ⟨w.heap.size, 0, none⟩ = some (.int .i64 x1.toNat) := K9.cell rfl
  have v1 : W9.cell? ⟨w.heap.size, 1, none⟩ = some (Fv f1 #[]) := K9.cell rfl
  have v2 : W9.cell? ⟨w.heap.size, 2, none⟩ = some (Fv f2 #[]) := K9.cell rfl
  refine bodyPost_ret (v := .tuple #[.agg #[.int .i64 x1.toNat, Fv f1 #[], Fv f2 #[]], .bool true]) (by simp [results, Try.results23, go_sem, v0, v1, v2]; try rfl) rfl ?_
  exact ⟨rfl, R9, s9.andThen S9 (fun i hi e => by omega)⟩
set_option maxHeartbeats 4000000 in
set_option maxRecDepth 100000 in
theorem oper_empty (b : ByteArray) (c : Nat) (w : World) (r : Nat) (hb : b.size < 4611686018427387904) (h0 : b.size = 0) (h : RdAt w r b (0, 0)) :
    Calls Try.prog 23 #[Pt r, .int .u8 c] w fun e w' => e = .returned (.tuple #[opZ, .bool false]) ∧ RdAt w' r b (0, 31) ∧ Stay (· = r) w w' := by
  have hB0 := fun W (hW : RdAt W r b (0, 0)) => bytes_any b (0, 0) 1 W r hb (Nat.zero_le _) (by omega) hW
  have hB1 := fun W (hW : RdAt W r b (0, 31)) => bytes_any b (0, 31) 1 W r hb (by simp only; omega) (by omega) hW
  have e0 : rdB 1 b (0, 0) = ([], (0, 31)) := by unfold rdB; rw [if_neg (by simp), if_pos (by simp only; omega)]
  have e1 : rdB 1 b (0, 31) = ([], (0, 31)) := by unfold rdB; rw [if_pos (by simp)]
  rw [e0] at hB0
  rw [e1] at hB1
  clear e0 e1
  have HB := Hid.mk (And.intro hB0 hB1)
  have HR := Hid.mk h
  have lr := HC.lt h
  clear hB0 hB1 h
  have hsf : ∀ (W : World) (p : Addr) (f : Fn) (x c : Array Value), (store p (.func f x c)).run Try.prog W = stored Try.prog W p (.func f x c) .plain := fun W p f x c => run_store Try.prog W p _ .plain rfl
  have hsn : ∀ (W : World) (p : Addr), (store p .nilFunc).run Try.prog W = stored Try.prog W p .nilFunc .plain := fun W p => run_store Try.prog W p _ .plain rfl
  have g0 : ∀ (x : UInt8) (h : 0 < (⟨#[x]⟩ : ByteArray).size), (⟨#[x]⟩ : ByteArray)[0]'h = x := fun x h => rfl
  go_enter Try.func23, Try.ntmps23
  go_wp2_with (first
    | (go_at_call 46; refine (HB.out.1 _ (HC.alloc HR.out _)).mono ?_; rintro e w1 ⟨rfl, r1, s1⟩; have H1 := Hid.mk (And.intro (opr_new w _ r lr s1).1 (And.intro r1 (opr_new w _ r lr s1).2)); clear r1 s1 HR)
    | (go_at_call 46; refine (HB.out.2 _ H1.out.2.1).mono ?_; rintro e w2 ⟨rfl, r2, s2⟩; have k2 := HC.stay H1.out.1 s2 (fun e => by omega); have t0 : w2.cell? ⟨w.heap.size, 0, none⟩ = some (.int .i64 0) := k2.cell rfl; have t1 : w2.cell? ⟨w.heap.size, 1, none⟩ = some .nilFunc := k2.cell rfl; have t2 : w2.cell? ⟨w.heap.size, 2, none⟩ = some .nilFunc := k2.cell rfl; have z0 := k2.free 0; have z1 := k2.free 1; have z2 := k2.free 2; have l3 := k2.lt; have H2 := Hid.mk (And.intro k2 (And.intro r2 s2)); clear r2 s2 k2))
  have s9 : Stay (· = r) w w2 := H1.out.2.2.trans H2.out.2.2
  obtain ⟨K9, S9⟩ := put3 H2.out.1 (.int .i64 0) .nilFunc .nilFunc
  have L9 : w.heap.size < w2.heap.size := HC.lt H2.out.1
  have R9 : RdAt (((w2.setCell ⟨w.heap.size, 0, none⟩ (.int .i64 0)).setCell ⟨w.heap.size, 1, none⟩ .nilFunc).setCell ⟨w.heap.size, 2, none⟩ .nilFunc) r b (0, 31) := HC.stay H2.out.2.1 S9 (fun e => by omega)
  obtain ⟨W9, hW9⟩ : ∃ W9, W9 = (((w2.setCell ⟨w.heap.size, 0, none⟩ (.int .i64 0)).setCell ⟨w.heap.size, 1, none⟩ .nilFunc).setCell ⟨w.heap.size, 2, none⟩ .nilFunc) := ⟨_, rfl⟩
  rw [← hW9] at K9 S9 R9 ⊢
  have v0 : W9.cell? ⟨w.heap.size, 0, none⟩ = some (.int .i64 0) := K9.cell rfl
  have v1 : W9.cell? ⟨w.heap.size, 1, none⟩ = some .nilFunc := K9.cell rfl
  have v2 : W9.cell? ⟨w.heap.size, 2, none⟩ = some .nilFunc := K9.cell rfl
  refine bodyPost_ret (v := .tuple #[opZ, .bool false]) (by simp [results, Try.results23, go_sem, v0, v1, v2]; try rfl) rfl ?_
  exact ⟨rfl, R9, s9.andThen S9 (fun i hi e => by omega)⟩
set_option maxHeartbeats 4000000 in
set_option maxRecDepth 100000 in
theorem oper_kind (b : ByteArray) (c : Nat) (w : World) (r : Nat) (hb : b.size < 4611686018427387904) (h1 : 1 ≤ b.size) (hc : ¬ (b[0]).toNat = c) (h : RdAt w r b (0, 0)) :
    Calls Try.prog 23 #[Pt r, .int .u8 c] w fun e w' => e = .returned (.tuple #[opZ, .bool false]) ∧ RdAt w' r b (1, 35) ∧ Stay (· = r) w w' := by
  have hB0 := fun W (hW : RdAt W r b (0, 0)) => bytes_any b (0, 0) 1 W r hb (Nat.zero_le _) (by omega) hW
  have hB1 := fun W (hW : RdAt W r b (1, 35)) => bytes_any b (1, 35) 1 W r hb (by simp only; omega) (by omega) hW
  have e0 : rdB 1 b (0, 0) = (sub b 0 1, (1, 0)) := by unfold rdB; rw [if_neg (by simp), if_neg (by simp only; omega)]
  rw [e0] at hB0
  simp only [one_byte b 0 (by omega)] at hB0
  obtain ⟨x0, hx0⟩ : ∃ x, x = b[0] := ⟨_, rfl⟩
  rw [← hx0] at hB0 hc
  have hc' : ¬ (x0.toNat : Int) = (c : Int) := by omega
  have e1 : rdB 1 b (1, 35) = ([], (1, 35)) := by unfold rdB; rw [if_pos (by simp)]
  rw [e1] at hB1
  clear e0 e1 hx0
  have HB := Hid.mk (And.intro hB0 hB1)
  have HR := Hid.mk h
  have lr := HC.lt h
  clear hB0 hB1 h
  have hsf : ∀ (W : World) (p : Addr) (f : Fn) (x c : Array Value), (store p (.func f x c)).run Try.prog W = stored Try.prog W p (.func f x c) .plain := fun W p f x c => run_store Try.prog W p _ .plain rfl
  have hsn : ∀ (W : World) (p : Addr), (store p .nilFunc).run Try.prog W = stored Try.prog W p .nilFunc .plain := fun W p => run_store Try.prog W p _ .plain rfl
  have g0 : ∀ (x : UInt8) (h : 0 < (⟨#[x]⟩ : ByteArray).size), (⟨#[x]⟩ : ByteArray)[0]'h = x := fun x h => rfl
  go_enter Try.func23, Try.ntmps23
  go_wp2_with (first
    | (go_at_call 47; refine (refuse_any b (1, 0) 35 _ r H1.out.2.1).mono ?_; rintro e wk ⟨rfl, rk, sk⟩; have HK := Hid.mk (And.intro (HC.stay H1.out.1 sk (fun e => by omega)) (And.intro rk (H1.out.2.2.trans sk))); clear rk sk)
    | (go_at_call 46; refine (HB.out.1 _ (HC.alloc HR.out _)).mono ?_; rintro e w1 ⟨rfl, r1, s1⟩; have H1 := Hid.mk (And.intro (opr_new w _ r lr s1).1 (And.intro r1 (opr_new w _ r lr s1).2)); clear r1 s1 HR)
    | (go_at_call 46; refine (HB.out.2 _ HK.out.2.1).mono ?_; rintro e w2 ⟨rfl, r2, s2⟩; have k2 := HC.stay HK.out.1 s2 (fun e => by omega); have t0 : w2.cell? ⟨w.heap.size, 0, none⟩ = some (.int .i64 0) := k2.cell rfl; have t1 : w2.cell? ⟨w.heap.size, 1, none⟩ = some .nilFunc := k2.cell rfl; have t2 : w2.cell? ⟨w.heap.size, 2, none⟩ = some .nilFunc := k2.cell rfl; have z0 := k2.free 0; have z1 := k2.free 1; have z2 := k2.free 2; have l3 := k2.lt; have H2 := Hid.mk (And.intro k2 (And.intro r2 s2)); clear r2 s2 k2))
  have s9 : Stay (· = r) w w2 := HK.out.2.2.trans H2.out.2.2
  obtain ⟨K9, S9⟩ := put3 H2.out.1 (.int .i64 0) .nilFunc .nilFunc
  have L9 : w.heap.size < w2.heap.size := HC.lt H2.out.1
  have R9 : RdAt (((w2.setCell ⟨w.heap.size, 0, none⟩ (.int .i64 0)).setCell ⟨w.heap.size, 1, none⟩ .nilFunc).setCell ⟨w.heap.size, 2, none⟩ .nilFunc) r b (1, 35) := HC.stay H2.out.2.1 S9 (fun e => by omega)
  obtain ⟨W9, hW9⟩ : ∃ W9, W9 = (((w2.setCell ⟨w.heap.size, 0, none⟩ (.int .i64 0)).setCell ⟨w.heap.size, 1, none⟩ .nilFunc).setCell ⟨w.heap.size, 2, none⟩ .nilFunc) := ⟨_, rfl⟩
  rw [← hW9] at K9 S9 R9 ⊢
  have v0 : W9.cell? ⟨w.heap.size, 0, none⟩ = some (.int .i64 0) := K9.cell rfl
  have v1 : W9.cell? ⟨w.heap.size, 1, none⟩ = some .nilFunc := K9.cell rfl
  have v2 : W9.cell? ⟨w.heap.size, 2, none⟩ = some .nilFunc := K9.cell rfl
  refine bodyPost_ret (v := .tuple #[opZ, .bool false]) (by simp [results, Try.results23, go_sem, v0, v1, v2]; try rfl) rfl ?_
  exact ⟨rfl, R9, s9.andThen S9 (fun i hi e => by omega)⟩
set_option maxHeartbeats 4000000 in
set_option maxRecDepth 100000 in
theorem oper_short (b : ByteArray) (c : Nat) (w : World) (r : Nat) (hb : b.size < 4611686018427387904) (h1 : b.size = 1) (hc : (b[0]).toNat = c) (h : RdAt w r b (0, 0)) :
    Calls Try.prog 23 #[Pt r, .int .u8 c] w fun e w' => e = .returned (.tuple #[opZ, .bool false]) ∧ RdAt w' r b (1, 31) ∧ Stay (· = r) w w' := by
  have hB0 := fun W (hW : RdAt W r b (0, 0)) => bytes_any b (0, 0) 1 W r hb (Nat.zero_le _) (by omega) hW
  have hB1 := fun W (hW : RdAt W r b (1, 0)) => bytes_any b (1, 0) 1 W r hb (by simp only; omega) (by omega) hW
  have e0 : rdB 1 b (0, 0) = (sub b 0 1, (1, 0)) := by unfold rdB; rw [if_neg (by simp), if_neg (by simp only; omega)]
  rw [e0] at hB0
  simp only [one_byte b 0 (by omega)] at hB0
  obtain ⟨x0, hx0⟩ : ∃ x, x = b[0] := ⟨_, rfl⟩
  rw [← hx0] at hB0 hc
  subst hc
  have e1 : rdB 1 b (1, 0) = ([], (1, 31)) := by unfold rdB; rw [if_neg (by simp), if_pos (by simp only; omega)]
  rw [e1] at hB1
  clear e0 e1 hx0
  have HB := Hid.mk (And.intro hB0 hB1)
  have HR := Hid.mk h
  have lr := HC.lt h
  clear hB0 hB1 h
  have hsf : ∀ (W : World) (p : Addr) (f : Fn) (x c : Array Value), (store p (.func f x c)).run Try.prog W = stored Try.prog W p (.func f x c) .plain := fun W p f x c => run_store Try.prog W p _ .plain rfl
  have hsn : ∀ (W : World) (p : Addr), (store p .nilFunc).run Try.prog W = stored Try.prog W p .nilFunc .plain := fun W p => run_store Try.prog W p _ .plain rfl
  have g0 : ∀ (x : UInt8) (h : 0 < (⟨#[x]⟩ : ByteArray).size), (⟨#[x]⟩ : ByteArray)[0]'h = x := fun x h => rfl
  go_enter Try.func23, Try.ntmps23
  go_wp2_with (first
    | (go_at_call 46; refine (HB.out.1 _ (HC.alloc HR.out _)).mono ?_; rintro e w1 ⟨rfl, r1, s1⟩; have H1 := Hid.mk (And.intro (opr_new w _ r lr s1).1 (And.intro r1 (opr_new w _ r lr s1).2)); clear r1 s1 HR)
    | (go_at_call 46; refine (HB.out.2 _ H1.out.2.1).mono ?_; rintro e w2 ⟨rfl, r2, s2⟩; have k2 := HC.stay H1.out.1 s2 (fun e => by omega); have t0 : w2.cell? ⟨w.heap.size, 0, none⟩ = some (.int .i64 0) := k2.cell rfl; have t1 : w2.cell? ⟨w.heap.size, 1, none⟩ = some .nilFunc := k2.cell rfl; have t2 : w2.cell? ⟨w.heap.size, 2, none⟩ = some .nilFunc := k2.cell rfl; have z0 := k2.free 0; have z1 := k2.free 1; have z2 := k2.free 2; have l3 := k2.lt; have H2 := Hid.mk (And.intro k2 (And.intro r2 s2)); clear r2 s2 k2))
  have s9 : Stay (· = r) w w2 := H1.out.2.2.trans H2.out.2.2
  obtain ⟨K9, S9⟩ := put3 H2.out.1 (.int .i64 0) .nilFunc .nilFunc
  have L9 : w.heap.size < w2.heap.size := HC.lt H2.out.1
  have R9 : RdAt (((w2.setCell ⟨w.heap.size, 0, none⟩ (.int .i64 0)).setCell ⟨w.heap.size, 1, none⟩ .nilFunc).setCell ⟨w.heap.size, 2, none⟩ .nilFunc) r b (1, 31) := HC.stay H2.out.2.1 S9 (fun e => by omega)
  obtain ⟨W9, hW9⟩ : ∃ W9, W9 = (((w2.setCell ⟨w.heap.size, 0, none⟩ (.int .i64 0)).setCell ⟨w.heap.size, 1, none⟩ .nilFunc).setCell ⟨w.heap.size, 2, none⟩ .nilFunc) := ⟨_, rfl⟩
  rw [← hW9] at K9 S9 R9 ⊢
  have v0 : W9.cell? ⟨w.heap.size, 0, none⟩ = some (.int .i64 0) := K9.cell rfl
  have v1 : W9.cell? ⟨w.heap.size, 1, none⟩ = some .nilFunc := K9.cell rfl
  have v2 : W9.cell? ⟨w.heap.size, 2, none⟩ = some .nilFunc := K9.cell rfl
  refine bodyPost_ret (v := .tuple #[opZ, .bool false]) (by simp [results, Try.results23, go_sem, v0, v1, v2]; try rfl) rfl ?_
  exact ⟨rfl, R9, s9.andThen S9 (fun i hi e => by omega)⟩
set_option maxHeartbeats 4000000 in
set_option maxRecDepth 100000 in
theorem oper_none (b : ByteArray) (c : Nat) (w : World) (r : Nat) (hb : b.size < 4611686018427387904) (h2 : 2 ≤ b.size) (hc : (b[0]).toNat = c) (h1 : ¬ (1 ≤ (b[1]).toNat ∧ (b[1]).toNat ≤ 9)) (h : RdAt w r b (0, 0)) :
    Calls Try.prog 23 #[Pt r, .int .u8 c] w fun e w' => e = .returned (.tuple #[opZ, .bool false]) ∧ RdAt w' r b (2, 35) ∧ Stay (· = r) w w' := by
  have hB0 := fun W (hW : RdAt W r b (0, 0)) => bytes_any b (0, 0) 1 W r hb (Nat.zero_le _) (by omega) hW
  have hB1 := fun W (hW : RdAt W r b (1, 0)) => bytes_any b (1, 0) 1 W r hb (by simp only; omega) (by omega) hW
  have e0 : rdB 1 b (0, 0) = (sub b 0 1, (1, 0)) := by unfold rdB; rw [if_neg (by simp), if_neg (by simp only; omega)]
  rw [e0] at hB0
  simp only [one_byte b 0 (by omega)] at hB0
  obtain ⟨x0, hx0⟩ : ∃ x, x = b[0] := ⟨_, rfl⟩
  rw [← hx0] at hB0 hc
  subst hc
  have e1 : rdB 1 b (1, 0) = (sub b 1 1, (2, 0)) := by unfold rdB; rw [if_neg (by simp), if_neg (by simp only; omega)]
  rw [e1] at hB1
  simp only [one_byte b 1 (by omega)] at hB1
  obtain ⟨x1, hx1⟩ : ∃ x, x = b[1] := ⟨_, rfl⟩
  rw [← hx1] at hB1 h1
  have HF := Hid.mk (fun W => find_no (x1.toNat : Int) (by omega) W)
  have hw : wrap64 (x1.toNat : Int) = (x1.toNat : Int) := w64_in _ (by omega) (by have := x1.toNat_lt; omega)
  clear e0 e1 hx0 hx1 h1
  have HB := Hid.mk (And.intro hB0 hB1)
  have HR := Hid.mk h
  have lr := HC.lt h
  clear hB0 hB1 h
  have hsf : ∀ (W : World) (p : Addr) (f : Fn) (x c : Array Value), (store p (.func f x c)).run Try.prog W = stored Try.prog W p (.func f x c) .plain := fun W p f x c => run_store Try.prog W p _ .plain rfl
  have hsn : ∀ (W : World) (p : Addr), (store p .nilFunc).run Try.prog W = stored Try.prog W p .nilFunc .plain := fun W p => run_store Try.prog W p _ .plain rfl
  have g0 : ∀ (x : UInt8) (h : 0 < (⟨#[x]⟩ : ByteArray).size), (⟨#[x]⟩ : ByteArray)[0]'h = x := fun x h => rfl
  go_enter Try.func23, Try.ntmps23
  go_wp2_with (first
    | (go_at_call 34; refine (HF.out _).mono ?_; rintro e w3 ⟨rfl, b3⟩; have k3 := HC.below H2.out.1 b3; have q3 := HC.below H2.out.2.1 b3; have H3 := Hid.mk (And.intro k3 (And.intro q3 (H2.out.2.2.trans (.below b3)))); clear k3 q3 b3)
    | (go_at_call 47; refine (refuse_any b (2, 0) 35 _ r (HC.alloc H3.out.2.1 _)).mono ?_; rintro e wk ⟨rfl, rk, sk⟩; have kk := HC.stay (HC.alloc H3.out.1 _) sk (fun e => by omega); have l33 : r < w3.heap.size := H3.out.2.1.lt; have kb := HC.stay (HC.new w3 #[.int .i64 0, .nilFunc, .nilFunc] 64) sk (fun e => by omega); have t0 : wk.cell? ⟨w.heap.size, 0, none⟩ = some (.int .i64 0) := kk.cell rfl; have t1 : wk.cell? ⟨w.heap.size, 1, none⟩ = some .nilFunc := kk.cell rfl; have t2 : wk.cell? ⟨w.heap.size, 2, none⟩ = some .nilFunc := kk.cell rfl; have z0 := kk.free 0; have z1 := kk.free 1; have z2 := kk.free 2; have l3 := kk.lt; have y0 : wk.cell? ⟨w3.heap.size, 0, none⟩ = some (.int .i64 0) := kb.cell rfl; have y1 : wk.cell? ⟨w3.heap.size, 1, none⟩ = some .nilFunc := kb.cell rfl; have y2 : wk.cell? ⟨w3.heap.size, 2, none⟩ = some .nilFunc := kb.cell rfl; have HK := Hid.mk (And.intro kk (And.intro rk ((H3.out.2.2.alloc _).trans sk))); clear kk kb rk sk)
    | (go_at_call 46; refine (HB.out.1 _ (HC.alloc HR.out _)).mono ?_; rintro e w1 ⟨rfl, r1, s1⟩; have H1 := Hid.mk (And.intro (opr_new w _ r lr s1).1 (And.intro r1 (opr_new w _ r lr s1).2)); clear r1 s1 HR)
    | (go_at_call 46; refine (HB.out.2 _ H1.out.2.1).mono ?_; rintro e w2 ⟨rfl, r2, s2⟩; have H2 := Hid.mk (And.intro (HC.stay H1.out.1 s2 (fun e => by omega)) (And.intro r2 (H1.out.2.2.trans s2))); clear r2 s2))
  obtain ⟨K9, S9⟩ := put3 HK.out.1 (.int .i64 0) .nilFunc .nilFunc
  have L9 : w.heap.size < wk.heap.size := HC.lt HK.out.1
  have R9 : RdAt (((wk.setCell ⟨w.heap.size, 0, none⟩ (.int .i64 0)).setCell ⟨w.heap.size, 1, none⟩ .nilFunc).setCell ⟨w.heap.size, 2, none⟩ .nilFunc) r b (2, 35) := HC.stay HK.out.2.1 S9 (fun e => by omega)
  obtain ⟨W9, hW9⟩ : ∃ W9, W9 = (((wk.setCell ⟨w.heap.size, 0, none⟩ (.int .i64 0)).setCell ⟨w.heap.size, 1, none⟩ .nilFunc).setCell ⟨w.heap.size, 2, none⟩ .nilFunc) := ⟨_, rfl⟩
  rw [← hW9] at K9 S9 R9 ⊢
  have v0 : W9.cell? ⟨w.heap.size, 0, none⟩ = some (.int .i64 0) := K9.cell rfl
  have v1 : W9.cell? ⟨w.heap.size, 1, none⟩ = some .nilFunc := K9.cell rfl
  have v2 : W9.cell? ⟨w.heap.size, 2, none⟩ = some .nilFunc := K9.cell rfl
  refine bodyPost_ret (v := .tuple #[opZ, .bool false]) (by simp [results, Try.results23, go_sem, v0, v1, v2]; try rfl) rfl ?_
  exact ⟨rfl, R9, HK.out.2.2.andThen S9 (fun i hi e => by omega)⟩
end Go.Proofs.Ytjdknijjkjmafaa
