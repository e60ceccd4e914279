/-
  DERIVED. WireBack's walk.
-/
import Derived.Test.YtnkepggldlobjaaWBack3
set_option linter.unusedVariables false
set_option linter.unusedSimpArgs false
namespace Go.Proofs.Ytnkepggldlobjaa
open Go.RowKit Go.Proofs.SealMath
/-- What the walk keeps: the request's box, the reply's, the hits. -/
structure BI (w W : World) (C D : Array Value) (a : Option Addr) (L : List Ht) : Prop where
  old : Below w.heap.size w W
  kq : HC W w.heap.size C 23
  kr : HC W (w.heap.size + 1) D 37
  hs : HsAt W a L
theorem BI.below {w W W' : World} {C D : Array Value} {a : Option Addr} {L : List Ht} (h : BI w W C D a L) (b : Below W.heap.size W W') : BI w W' C D a L :=
  ⟨chain h.old b (Nat.le_refl _), HC.below h.kq b, HC.below h.kr b, h.hs.below b⟩
theorem BI.alloc {w W : World} {C D : Array Value} {a : Option Addr} {L : List Ht} (h : BI w W C D a L) (x : Obj) : BI w (W.alloc x) C D a L := h.below ((Below.refl _ W).alloc (Nat.le_refl _) _)
theorem BI.new (w : World) (C D : Array Value) (a : Option Addr) (L : List Ht) (hs : HsAt w a L) : BI w ((w.alloc (.cells C 23)).alloc (.cells D 37)) C D a L := by
  have b1 : Below w.heap.size w (w.alloc (.cells C 23)) := (Below.refl _ w).alloc (Nat.le_refl _) _
  have b2 : Below w.heap.size w ((w.alloc (.cells C 23)).alloc (.cells D 37)) := b1.alloc (by simp) _
  have k : HC ((w.alloc (.cells C 23)).alloc (.cells D 37)) (w.heap.size + 1) D 37 := by
    have := HC.new (w.alloc (.cells C 23)) D 37
    have e : (w.alloc (.cells C 23)).heap.size = w.heap.size + 1 := by simp
    rw [e] at this
    exact this
  exact ⟨b2, HC.alloc (HC.new w _ _) _, k, hs.below b2⟩
set_option maxHeartbeats 8000000 in
set_option maxRecDepth 100000 in
theorem back_nn (qo qi qk qr op re rn : Int) (qc rt more : ByteArray) (L : List Ht) (a : Option Addr) (cap : Nat) (w : World) (hsw : HsAt w a L) (hm : more.size ≤ 140737488351232)
    (s t : ByteArray) (x y : Int)
    (hAk : ∀ W, Calls Try.prog 9 #[.agg #[.int .i64 qo, .int .i64 qi, .string qc, .int .i64 qk, .int .i64 qr]] W fun e w' => e = .returned (.tuple #[.string s, .int .i64 x]) ∧ Below W.heap.size W w')
    (hTl : ∀ W, HsAt W a L → Calls Try.prog 13 #[.int .i64 op, .agg #[.int .i64 re, .int .i64 rn, .string rt, .slice a L.length cap]] W fun e w' => e = .returned (.tuple #[.string t, .int .i64 y]) ∧ Below W.heap.size W w')
    (hx : x ≠ 0)
    (hy : y ≠ 0)
    : Calls Try.prog 6 #[.agg #[.int .i64 qo, .int .i64 qi, .string qc, .int .i64 qk, .int .i64 qr], .int .i64 op, .agg #[.int .i64 re, .int .i64 rn, .string rt, .slice a L.length cap], .string more] w fun e w' => e = .returned (.bool true) ∧ Below w.heap.size w w' := by
  have hBg := fun W => begun_law W
  have I0 := Hid.mk (BI.new w #[.int .i64 qo, .int .i64 qi, .string qc, .int .i64 qk, .int .i64 qr] #[.int .i64 re, .int .i64 rn, .string rt, .slice a L.length cap] a L hsw)
  have HTL := Hid.mk hTl
  clear hTl hsw hm
  go_enter Try.func6, Try.ntmps6
  go_wp2_with (first
    | (go_at_call 16; refine (hBg _).mono ?_; rintro ee w1 ⟨rfl, b1⟩; have I1 := Hid.mk (I0.out.below b1); clear b1 I0; have lqw1 : w.heap.size < w1.heap.size := I1.out.kq.lt; have lrw1 : w.heap.size + 1 < w1.heap.size := I1.out.kr.lt; have yqw10 : w1.cell? ⟨w.heap.size, 0, none⟩ = some (.int .i64 qo) := I1.out.kq.cell rfl; have yqw11 : w1.cell? ⟨w.heap.size, 1, none⟩ = some (.int .i64 qi) := I1.out.kq.cell rfl; have yqw12 : w1.cell? ⟨w.heap.size, 2, none⟩ = some (.string qc) := I1.out.kq.cell rfl; have yqw13 : w1.cell? ⟨w.heap.size, 3, none⟩ = some (.int .i64 qk) := I1.out.kq.cell rfl; have yqw14 : w1.cell? ⟨w.heap.size, 4, none⟩ = some (.int .i64 qr) := I1.out.kq.cell rfl)
    | (go_at_call 9; refine (hAk _).mono ?_; clear hAk; rintro ee w2 ⟨rfl, b2⟩; have I2 := Hid.mk (I1.out.below b2); clear b2 I1; have lqw2 : w.heap.size < w2.heap.size := I2.out.kq.lt; have lrw2 : w.heap.size + 1 < w2.heap.size := I2.out.kr.lt; have yrw20 : w2.cell? ⟨w.heap.size + 1, 0, none⟩ = some (.int .i64 re) := I2.out.kr.cell rfl; have yrw21 : w2.cell? ⟨w.heap.size + 1, 1, none⟩ = some (.int .i64 rn) := I2.out.kr.cell rfl; have yrw22 : w2.cell? ⟨w.heap.size + 1, 2, none⟩ = some (.string rt) := I2.out.kr.cell rfl; have yrw23 : w2.cell? ⟨w.heap.size + 1, 3, none⟩ = some (.slice a L.length cap) := I2.out.kr.cell rfl)
    | (go_at_call 13; refine (HTL.out _ I2.out.hs).mono ?_; clear HTL; rintro ee w6 ⟨rfl, b6⟩; have I6 := Hid.mk (I2.out.below b6); clear b6 I2)
    | (go_at_call 16; refine (hBg _).mono ?_; rintro ee w11 ⟨rfl, b11⟩; have I11 := Hid.mk (I6.out.below b11); clear b11))
  go_ret
  exact ⟨rfl, I11.out.old⟩
set_option maxHeartbeats 8000000 in
set_option maxRecDepth 100000 in
theorem back_yn (qo qi qk qr op re rn : Int) (qc rt more : ByteArray) (L : List Ht) (a : Option Addr) (cap : Nat) (w : World) (hsw : HsAt w a L) (hm : more.size ≤ 140737488351232)
    (s t : ByteArray) (x y : Int)
    (hAk : ∀ W, Calls Try.prog 9 #[.agg #[.int .i64 qo, .int .i64 qi, .string qc, .int .i64 qk, .int .i64 qr]] W fun e w' => e = .returned (.tuple #[.string s, .int .i64 x]) ∧ Below W.heap.size W w')
    (hTl : ∀ W, HsAt W a L → Calls Try.prog 13 #[.int .i64 op, .agg #[.int .i64 re, .int .i64 rn, .string rt, .slice a L.length cap]] W fun e w' => e = .returned (.tuple #[.string t, .int .i64 y]) ∧ Below W.heap.size W w')
    (hx : x = 0) (hs1 : 1 ≤ s.size) (hs2 : s.size ≤ 8589934592)
    (a1 : ∀ W, Calls Try.prog 11 #[.string s] W fun e w' => e = .returned (.tuple #[.agg #[.int .i64 qo, .int .i64 qi, .string qc, .int .i64 qk, .int .i64 qr], .int .i64 0]) ∧ Below W.heap.size W w')
    (a2 : ∀ W, Calls Try.prog 11 #[.string (s ++ ⟨#[120]⟩ ++ more)] W fun e w' => e = .returned (.tuple #[.agg #[.int .i64 0, .int .i64 0, .string ⟨#[]⟩, .int .i64 0, .int .i64 0], .int .i64 37]) ∧ Below W.heap.size W w')
    (a3 : ∀ W, Calls Try.prog 11 #[.string (s.extract 0 (s.size - 1))] W fun e w' => e = .returned (.tuple #[.agg #[.int .i64 0, .int .i64 0, .string ⟨#[]⟩, .int .i64 0, .int .i64 0], .int .i64 31]) ∧ Below W.heap.size W w')
    (hy : y ≠ 0)
    : Calls Try.prog 6 #[.agg #[.int .i64 qo, .int .i64 qi, .string qc, .int .i64 qk, .int .i64 qr], .int .i64 op, .agg #[.int .i64 re, .int .i64 rn, .string rt, .slice a L.length cap], .string more] w fun e w' => e = .returned (.bool true) ∧ Below w.heap.size w w' := by
  have hBg := fun W => begun_law W
  have I0 := Hid.mk (BI.new w #[.int .i64 qo, .int .i64 qi, .string qc, .int .i64 qk, .int .i64 qr] #[.int .i64 re, .int .i64 rn, .string rt, .slice a L.length cap] a L hsw)
  subst hx
  have heq := fun W => rq_neq ⟨qo, qi, qc, qk, qr⟩ ⟨qo, qi, qc, qk, qr⟩ W
  rw [(rqE_iff _ _).2 rfl] at heq
  simp only [rqV, Bool.not_true] at heq
  have e120 : (⟨#[120]⟩ : ByteArray).size = 1 := rfl
  have z1 : ¬ 9223372036854775807 < s.size + (⟨#[120]⟩ : ByteArray).size := by rw [e120]; omega
  have z2 : ¬ 9223372036854775807 < (s ++ ⟨#[120]⟩).size + more.size := by rw [ByteArray.size_append, e120]; omega
  have z3 : ((s.size : Int) - 1) = ((s.size - 1 : Nat) : Int) := by omega
  have z4 : s.size - 1 ≤ s.size := by omega
  have HTL := Hid.mk hTl
  clear hTl hsw hm
  go_enter Try.func6, Try.ntmps6
  go_wp2_with (first
    | (go_at_call 16; refine (hBg _).mono ?_; rintro ee w1 ⟨rfl, b1⟩; have I1 := Hid.mk (I0.out.below b1); clear b1 I0; have lqw1 : w.heap.size < w1.heap.size := I1.out.kq.lt; have lrw1 : w.heap.size + 1 < w1.heap.size := I1.out.kr.lt; have yqw10 : w1.cell? ⟨w.heap.size, 0, none⟩ = some (.int .i64 qo) := I1.out.kq.cell rfl; have yqw11 : w1.cell? ⟨w.heap.size, 1, none⟩ = some (.int .i64 qi) := I1.out.kq.cell rfl; have yqw12 : w1.cell? ⟨w.heap.size, 2, none⟩ = some (.string qc) := I1.out.kq.cell rfl; have yqw13 : w1.cell? ⟨w.heap.size, 3, none⟩ = some (.int .i64 qk) := I1.out.kq.cell rfl; have yqw14 : w1.cell? ⟨w.heap.size, 4, none⟩ = some (.int .i64 qr) := I1.out.kq.cell rfl)
    | (go_at_call 9; refine (hAk _).mono ?_; clear hAk; rintro ee w2 ⟨rfl, b2⟩; have I2 := Hid.mk (I1.out.below b2); clear b2 I1; skip)
    | (go_at_call 11; refine (a1 _).mono ?_; clear a1; rintro ee w3 ⟨rfl, b3⟩; have I3 := Hid.mk (I2.out.below b3); clear b3 I2; have lqw3 : w.heap.size < w3.heap.size := I3.out.kq.lt; have lrw3 : w.heap.size + 1 < w3.heap.size := I3.out.kr.lt; have yqw30 : w3.cell? ⟨w.heap.size, 0, none⟩ = some (.int .i64 qo) := I3.out.kq.cell rfl; have yqw31 : w3.cell? ⟨w.heap.size, 1, none⟩ = some (.int .i64 qi) := I3.out.kq.cell rfl; have yqw32 : w3.cell? ⟨w.heap.size, 2, none⟩ = some (.string qc) := I3.out.kq.cell rfl; have yqw33 : w3.cell? ⟨w.heap.size, 3, none⟩ = some (.int .i64 qk) := I3.out.kq.cell rfl; have yqw34 : w3.cell? ⟨w.heap.size, 4, none⟩ = some (.int .i64 qr) := I3.out.kq.cell rfl)
    | (go_at_call 11; refine (a2 _).mono ?_; clear a2; rintro ee w4 ⟨rfl, b4⟩; have I4 := Hid.mk ((I3.out.alloc _).below b4); clear b4 I3)
    | (go_at_call 11; refine (a3 _).mono ?_; clear a3; rintro ee w5 ⟨rfl, b5⟩; have I5 := Hid.mk ((I4.out.alloc _).below b5); clear b5 I4; have lqw5 : w.heap.size < w5.heap.size := I5.out.kq.lt; have lrw5 : w.heap.size + 1 < w5.heap.size := I5.out.kr.lt; have yrw50 : w5.cell? ⟨w.heap.size + 1, 0, none⟩ = some (.int .i64 re) := I5.out.kr.cell rfl; have yrw51 : w5.cell? ⟨w.heap.size + 1, 1, none⟩ = some (.int .i64 rn) := I5.out.kr.cell rfl; have yrw52 : w5.cell? ⟨w.heap.size + 1, 2, none⟩ = some (.string rt) := I5.out.kr.cell rfl; have yrw53 : w5.cell? ⟨w.heap.size + 1, 3, none⟩ = some (.slice a L.length cap) := I5.out.kr.cell rfl)
    | (go_at_call 13; refine (HTL.out _ (I5.out.alloc _).hs).mono ?_; clear HTL; rintro ee w6 ⟨rfl, b6⟩; have I6 := Hid.mk ((I5.out.alloc _).below b6); clear b6 I5)
    | (go_at_call 16; refine (hBg _).mono ?_; rintro ee w11 ⟨rfl, b11⟩; have I11 := Hid.mk (I6.out.below b11); clear b11))
  go_ret
  exact ⟨rfl, I11.out.old⟩
set_option maxHeartbeats 8000000 in
set_option maxRecDepth 100000 in
theorem back_ny (qo qi qk qr op re rn : Int) (qc rt more : ByteArray) (L : List Ht) (a : Option Addr) (cap : Nat) (w : World) (hsw : HsAt w a L) (hm : more.size ≤ 140737488351232)
    (s t : ByteArray) (x y : Int)
    (hAk : ∀ W, Calls Try.prog 9 #[.agg #[.int .i64 qo, .int .i64 qi, .string qc, .int .i64 qk, .int .i64 qr]] W fun e w' => e = .returned (.tuple #[.string s, .int .i64 x]) ∧ Below W.heap.size W w')
    (hTl : ∀ W, HsAt W a L → Calls Try.prog 13 #[.int .i64 op, .agg #[.int .i64 re, .int .i64 rn, .string rt, .slice a L.length cap]] W fun e w' => e = .returned (.tuple #[.string t, .int .i64 y]) ∧ Below W.heap.size W w')
    (hx : x ≠ 0)
    (hy : y = 0) (ht1 : 1 ≤ t.size) (ht2 : t.size ≤ 8589934592) (hL : L.length ≤ 65536)
    (t1 : ∀ W, Calls Try.prog 17 #[.string t] W fun e w' => ∃ v, e = .returned (.tuple #[.int .i64 op, .agg #[.int .i64 re, .int .i64 rn, .string rt, v], .int .i64 0]) ∧ HRow w' v L ∧ (∀ k, v.ownBlock = some k → W.heap.size ≤ k) ∧ Below W.heap.size W w')
    (t2 : ∀ W, Calls Try.prog 17 #[.string (t ++ ⟨#[120]⟩ ++ more)] W fun e w' => ∃ v, e = .returned (.tuple #[.int .i64 0, .agg #[.int .i64 0, .int .i64 0, .string ⟨#[]⟩, v], .int .i64 37]) ∧ HRow w' v [] ∧ (∀ k, v.ownBlock = some k → W.heap.size ≤ k) ∧ Below W.heap.size W w')
    (t3 : ∀ W, Calls Try.prog 17 #[.string (t.extract 0 (t.size - 1))] W fun e w' => ∃ v, e = .returned (.tuple #[.int .i64 0, .agg #[.int .i64 0, .int .i64 0, .string ⟨#[]⟩, v], .int .i64 31]) ∧ HRow w' v [] ∧ (∀ k, v.ownBlock = some k → W.heap.size ≤ k) ∧ Below W.heap.size W w')
    : Calls Try.prog 6 #[.agg #[.int .i64 qo, .int .i64 qi, .string qc, .int .i64 qk, .int .i64 qr], .int .i64 op, .agg #[.int .i64 re, .int .i64 rn, .string rt, .slice a L.length cap], .string more] w fun e w' => e = .returned (.bool true) ∧ Below w.heap.size w w' := by
  have hBg := fun W => begun_law W
  have hSm := fun W a' c' h1 h2 => same_any ⟨re, rn, rt⟩ L a' a c' cap W h1 h2 hL
  simp only [rpC] at hSm
  have I0 := Hid.mk (BI.new w #[.int .i64 qo, .int .i64 qi, .string qc, .int .i64 qk, .int .i64 qr] #[.int .i64 re, .int .i64 rn, .string rt, .slice a L.length cap] a L hsw)
  subst hy
  have f120 : (⟨#[120]⟩ : ByteArray).size = 1 := rfl
  have u1 : ¬ 9223372036854775807 < t.size + (⟨#[120]⟩ : ByteArray).size := by rw [f120]; omega
  have u2 : ¬ 9223372036854775807 < (t ++ ⟨#[120]⟩).size + more.size := by rw [ByteArray.size_append, f120]; omega
  have u3 : ((t.size : Int) - 1) = ((t.size - 1 : Nat) : Int) := by omega
  have u4 : t.size - 1 ≤ t.size := by omega
  have HT1 := Hid.mk t1
  have HT2 := Hid.mk t2
  have HT3 := Hid.mk t3
  have HSM := Hid.mk hSm
  clear hSm t1 t2 t3 f120
  have HTL := Hid.mk hTl
  clear hTl hsw hm
  go_enter Try.func6, Try.ntmps6
  go_wp2_with (first
    | (go_at_call 16; refine (hBg _).mono ?_; rintro ee w1 ⟨rfl, b1⟩; have I1 := Hid.mk (I0.out.below b1); clear b1 I0; have lqw1 : w.heap.size < w1.heap.size := I1.out.kq.lt; have lrw1 : w.heap.size + 1 < w1.heap.size := I1.out.kr.lt; have yqw10 : w1.cell? ⟨w.heap.size, 0, none⟩ = some (.int .i64 qo) := I1.out.kq.cell rfl; have yqw11 : w1.cell? ⟨w.heap.size, 1, none⟩ = some (.int .i64 qi) := I1.out.kq.cell rfl; have yqw12 : w1.cell? ⟨w.heap.size, 2, none⟩ = some (.string qc) := I1.out.kq.cell rfl; have yqw13 : w1.cell? ⟨w.heap.size, 3, none⟩ = some (.int .i64 qk) := I1.out.kq.cell rfl; have yqw14 : w1.cell? ⟨w.heap.size, 4, none⟩ = some (.int .i64 qr) := I1.out.kq.cell rfl)
    | (go_at_call 9; refine (hAk _).mono ?_; clear hAk; rintro ee w2 ⟨rfl, b2⟩; have I2 := Hid.mk (I1.out.below b2); clear b2 I1; have lqw2 : w.heap.size < w2.heap.size := I2.out.kq.lt; have lrw2 : w.heap.size + 1 < w2.heap.size := I2.out.kr.lt; have yrw20 : w2.cell? ⟨w.heap.size + 1, 0, none⟩ = some (.int .i64 re) := I2.out.kr.cell rfl; have yrw21 : w2.cell? ⟨w.heap.size + 1, 1, none⟩ = some (.int .i64 rn) := I2.out.kr.cell rfl; have yrw22 : w2.cell? ⟨w.heap.size + 1, 2, none⟩ = some (.string rt) := I2.out.kr.cell rfl; have yrw23 : w2.cell? ⟨w.heap.size + 1, 3, none⟩ = some (.slice a L.length cap) := I2.out.kr.cell rfl)
    | (go_at_call 13; refine (HTL.out _ I2.out.hs).mono ?_; clear HTL; rintro ee w6 ⟨rfl, b6⟩; have I6 := Hid.mk (I2.out.below b6); clear b6 I2)
    | (go_at_call 17; refine (HT1.out _).mono ?_; clear HT1; rintro ee w7 ⟨v7, rfl, row7, own7, b7⟩; obtain ⟨av, cv, hav, -⟩ := slice_form row7; have R7 := Hid.mk (row7.at hav); subst hav; have I7 := Hid.mk (I6.out.below b7); clear b7 I6 row7 own7; have lqw7 : w.heap.size < w7.heap.size := I7.out.kq.lt; have lrw7 : w.heap.size + 1 < w7.heap.size := I7.out.kr.lt; have yrw70 : w7.cell? ⟨w.heap.size + 1, 0, none⟩ = some (.int .i64 re) := I7.out.kr.cell rfl; have yrw71 : w7.cell? ⟨w.heap.size + 1, 1, none⟩ = some (.int .i64 rn) := I7.out.kr.cell rfl; have yrw72 : w7.cell? ⟨w.heap.size + 1, 2, none⟩ = some (.string rt) := I7.out.kr.cell rfl; have yrw73 : w7.cell? ⟨w.heap.size + 1, 3, none⟩ = some (.slice a L.length cap) := I7.out.kr.cell rfl)
    | (go_at_call 18; refine (HSM.out _ av cv (R7.out.below ((Below.refl _ w7).alloc (Nat.le_refl _) _)) (I7.out.alloc _).hs).mono ?_; clear HSM; rintro ee w8 ⟨rfl, b8⟩; have I8 := Hid.mk ((I7.out.alloc _).below b8); clear b8 I7 R7)
    | (go_at_call 17; refine (HT2.out _).mono ?_; clear HT2; rintro ee w9 ⟨v9, rfl, row9, -, b9⟩; obtain ⟨av9, cv9, hav9, -⟩ := slice_form row9; subst hav9; clear row9; have I9 := Hid.mk (I8.out.below b9); clear b9 I8)
    | (go_at_call 17; refine (HT3.out _).mono ?_; clear HT3; rintro ee w10 ⟨v10, rfl, row10, -, b10⟩; obtain ⟨av10, cv10, hav10, -⟩ := slice_form row10; subst hav10; clear row10; have I10 := Hid.mk ((I9.out.alloc _).below b10); clear b10 I9)
    | (go_at_call 16; refine (hBg _).mono ?_; rintro ee w11 ⟨rfl, b11⟩; have I11 := Hid.mk ((I10.out.alloc _).below b11); clear b11))
  go_ret
  exact ⟨rfl, I11.out.old⟩
set_option maxHeartbeats 8000000 in
set_option maxRecDepth 100000 in
theorem back_yy (qo qi qk qr op re rn : Int) (qc rt more : ByteArray) (L : List Ht) (a : Option Addr) (cap : Nat) (w : World) (hsw : HsAt w a L) (hm : more.size ≤ 140737488351232)
    (s t : ByteArray) (x y : Int)
    (hAk : ∀ W, Calls Try.prog 9 #[.agg #[.int .i64 qo, .int .i64 qi, .string qc, .int .i64 qk, .int .i64 qr]] W fun e w' => e = .returned (.tuple #[.string s, .int .i64 x]) ∧ Below W.heap.size W w')
    (hTl : ∀ W, HsAt W a L → Calls Try.prog 13 #[.int .i64 op, .agg #[.int .i64 re, .int .i64 rn, .string rt, .slice a L.length cap]] W fun e w' => e = .returned (.tuple #[.string t, .int .i64 y]) ∧ Below W.heap.size W w')
    (hx : x = 0) (hs1 : 1 ≤ s.size) (hs2 : s.size ≤ 8589934592)
    (a1 : ∀ W, Calls Try.prog 11 #[.string s] W fun e w' => e = .returned (.tuple #[.agg #[.int .i64 qo, .int .i64 qi, .string qc, .int .i64 qk, .int .i64 qr], .int .i64 0]) ∧ Below W.heap.size W w')
    (a2 : ∀ W, Calls Try.prog 11 #[.string (s ++ ⟨#[120]⟩ ++ more)] W fun e w' => e = .returned (.tuple #[.agg #[.int .i64 0, .int .i64 0, .string ⟨#[]⟩, .int .i64 0, .int .i64 0], .int .i64 37]) ∧ Below W.heap.size W w')
    (a3 : ∀ W, Calls Try.prog 11 #[.string (s.extract 0 (s.size - 1))] W fun e w' => e = .returned (.tuple #[.agg #[.int .i64 0, .int .i64 0, .string ⟨#[]⟩, .int .i64 0, .int .i64 0], .int .i64 31]) ∧ Below W.heap.size W w')
    (hy : y = 0) (ht1 : 1 ≤ t.size) (ht2 : t.size ≤ 8589934592) (hL : L.length ≤ 65536)
    (t1 : ∀ W, Calls Try.prog 17 #[.string t] W fun e w' => ∃ v, e = .returned (.tuple #[.int .i64 op, .agg #[.int .i64 re, .int .i64 rn, .string rt, v], .int .i64 0]) ∧ HRow w' v L ∧ (∀ k, v.ownBlock = some k → W.heap.size ≤ k) ∧ Below W.heap.size W w')
    (t2 : ∀ W, Calls Try.prog 17 #[.string (t ++ ⟨#[120]⟩ ++ more)] W fun e w' => ∃ v, e = .returned (.tuple #[.int .i64 0, .agg #[.int .i64 0, .int .i64 0, .string ⟨#[]⟩, v], .int .i64 37]) ∧ HRow w' v [] ∧ (∀ k, v.ownBlock = some k → W.heap.size ≤ k) ∧ Below W.heap.size W w')
    (t3 : ∀ W, Calls Try.prog 17 #[.string (t.extract 0 (t.size - 1))] W fun e w' => ∃ v, e = .returned (.tuple #[.int .i64 0, .agg #[.int .i64 0, .int .i64 0, .string ⟨#[]⟩, v], .int .i64 31]) ∧ HRow w' v [] ∧ (∀ k, v.ownBlock = some k → W.heap.size ≤ k) ∧ Below W.heap.size W w')
    : Calls Try.prog 6 #[.agg #[.int .i64 qo, .int .i64 qi, .string qc, .int .i64 qk, .int .i64 qr], .int .i64 op, .agg #[.int .i64 re, .int .i64 rn, .string rt, .slice a L.length cap], .string more] w fun e w' => e = .returned (.bool true) ∧ Below w.heap.size w w' := by
  have hBg := fun W => begun_law W
  have hSm := fun W a' c' h1 h2 => same_any ⟨re, rn, rt⟩ L a' a c' cap W h1 h2 hL
  simp only [rpC] at hSm
  have I0 := Hid.mk (BI.new w #[.int .i64 qo, .int .i64 qi, .string qc, .int .i64 qk, .int .i64 qr] #[.int .i64 re, .int .i64 rn, .string rt, .slice a L.length cap] a L hsw)
  subst hx
  have heq := fun W => rq_neq ⟨qo, qi, qc, qk, qr⟩ ⟨qo, qi, qc, qk, qr⟩ W
  rw [(rqE_iff _ _).2 rfl] at heq
  simp only [rqV, Bool.not_true] at heq
  have e120 : (⟨#[120]⟩ : ByteArray).size = 1 := rfl
  have z1 : ¬ 9223372036854775807 < s.size + (⟨#[120]⟩ : ByteArray).size := by rw [e120]; omega
  have z2 : ¬ 9223372036854775807 < (s ++ ⟨#[120]⟩).size + more.size := by rw [ByteArray.size_append, e120]; omega
  have z3 : ((s.size : Int) - 1) = ((s.size - 1 : Nat) : Int) := by omega
  have z4 : s.size - 1 ≤ s.size := by omega
  subst hy
  have f120 : (⟨#[120]⟩ : ByteArray).size = 1 := rfl
  have u1 : ¬ 9223372036854775807 < t.size + (⟨#[120]⟩ : ByteArray).size := by rw [f120]; omega
  have u2 : ¬ 9223372036854775807 < (t ++ ⟨#[120]⟩).size + more.size := by rw [ByteArray.size_append, f120]; omega
  have u3 : ((t.size : Int) - 1) = ((t.size - 1 : Nat) : Int) := by omega
  have u4 : t.size - 1 ≤ t.size := by omega
  have HT1 := Hid.mk t1
  have HT2 := Hid.mk t2
  have HT3 := Hid.mk t3
  have HSM := Hid.mk hSm
  clear hSm t1 t2 t3 f120
  have HTL := Hid.mk hTl
  clear hTl hsw hm
  go_enter Try.func6, Try.ntmps6
  go_wp2_with (first
    | (go_at_call 16; refine (hBg _).mono ?_; rintro ee w1 ⟨rfl, b1⟩; have I1 := Hid.mk (I0.out.below b1); clear b1 I0; have lqw1 : w.heap.size < w1.heap.size := I1.out.kq.lt; have lrw1 : w.heap.size + 1 < w1.heap.size := I1.out.kr.lt; have yqw10 : w1.cell? ⟨w.heap.size, 0, none⟩ = some (.int .i64 qo) := I1.out.kq.cell rfl; have yqw11 : w1.cell? ⟨w.heap.size, 1, none⟩ = some (.int .i64 qi) := I1.out.kq.cell rfl; have yqw12 : w1.cell? ⟨w.heap.size, 2, none⟩ = some (.string qc) := I1.out.kq.cell rfl; have yqw13 : w1.cell? ⟨w.heap.size, 3, none⟩ = some (.int .i64 qk) := I1.out.kq.cell rfl; have yqw14 : w1.cell? ⟨w.heap.size, 4, none⟩ = some (.int .i64 qr) := I1.out.kq.cell rfl)
    | (go_at_call 9; refine (hAk _).mono ?_; clear hAk; rintro ee w2 ⟨rfl, b2⟩; have I2 := Hid.mk (I1.out.below b2); clear b2 I1; skip)
    | (go_at_call 11; refine (a1 _).mono ?_; clear a1; rintro ee w3 ⟨rfl, b3⟩; have I3 := Hid.mk (I2.out.below b3); clear b3 I2; have lqw3 : w.heap.size < w3.heap.size := I3.out.kq.lt; have lrw3 : w.heap.size + 1 < w3.heap.size := I3.out.kr.lt; have yqw30 : w3.cell? ⟨w.heap.size, 0, none⟩ = some (.int .i64 qo) := I3.out.kq.cell rfl; have yqw31 : w3.cell? ⟨w.heap.size, 1, none⟩ = some (.int .i64 qi) := I3.out.kq.cell rfl; have yqw32 : w3.cell? ⟨w.heap.size, 2, none⟩ = some (.string qc) := I3.out.kq.cell rfl; have yqw33 : w3.cell? ⟨w.heap.size, 3, none⟩ = some (.int .i64 qk) := I3.out.kq.cell rfl; have yqw34 : w3.cell? ⟨w.heap.size, 4, none⟩ = some (.int .i64 qr) := I3.out.kq.cell rfl)
    | (go_at_call 11; refine (a2 _).mono ?_; clear a2; rintro ee w4 ⟨rfl, b4⟩; have I4 := Hid.mk ((I3.out.alloc _).below b4); clear b4 I3)
    | (go_at_call 11; refine (a3 _).mono ?_; clear a3; rintro ee w5 ⟨rfl, b5⟩; have I5 := Hid.mk ((I4.out.alloc _).below b5); clear b5 I4; have lqw5 : w.heap.size < w5.heap.size := I5.out.kq.lt; have lrw5 : w.heap.size + 1 < w5.heap.size := I5.out.kr.lt; have yrw50 : w5.cell? ⟨w.heap.size + 1, 0, none⟩ = some (.int .i64 re) := I5.out.kr.cell rfl; have yrw51 : w5.cell? ⟨w.heap.size + 1, 1, none⟩ = some (.int .i64 rn) := I5.out.kr.cell rfl; have yrw52 : w5.cell? ⟨w.heap.size + 1, 2, none⟩ = some (.string rt) := I5.out.kr.cell rfl; have yrw53 : w5.cell? ⟨w.heap.size + 1, 3, none⟩ = some (.slice a L.length cap) := I5.out.kr.cell rfl)
    | (go_at_call 13; refine (HTL.out _ (I5.out.alloc _).hs).mono ?_; clear HTL; rintro ee w6 ⟨rfl, b6⟩; have I6 := Hid.mk ((I5.out.alloc _).below b6); clear b6 I5)
    | (go_at_call 17; refine (HT1.out _).mono ?_; clear HT1; rintro ee w7 ⟨v7, rfl, row7, own7, b7⟩; obtain ⟨av, cv, hav, -⟩ := slice_form row7; have R7 := Hid.mk (row7.at hav); subst hav; have I7 := Hid.mk (I6.out.below b7); clear b7 I6 row7 own7; have lqw7 : w.heap.size < w7.heap.size := I7.out.kq.lt; have lrw7 : w.heap.size + 1 < w7.heap.size := I7.out.kr.lt; have yrw70 : w7.cell? ⟨w.heap.size + 1, 0, none⟩ = some (.int .i64 re) := I7.out.kr.cell rfl; have yrw71 : w7.cell? ⟨w.heap.size + 1, 1, none⟩ = some (.int .i64 rn) := I7.out.kr.cell rfl; have yrw72 : w7.cell? ⟨w.heap.size + 1, 2, none⟩ = some (.string rt) := I7.out.kr.cell rfl; have yrw73 : w7.cell? ⟨w.heap.size + 1, 3, none⟩ = some (.slice a L.length cap) := I7.out.kr.cell rfl)
    | (go_at_call 18; refine (HSM.out _ av cv (R7.out.below ((Below.refl _ w7).alloc (Nat.le_refl _) _)) (I7.out.alloc _).hs).mono ?_; clear HSM; rintro ee w8 ⟨rfl, b8⟩; have I8 := Hid.mk ((I7.out.alloc _).below b8); clear b8 I7 R7)
    | (go_at_call 17; refine (HT2.out _).mono ?_; clear HT2; rintro ee w9 ⟨v9, rfl, row9, -, b9⟩; obtain ⟨av9, cv9, hav9, -⟩ := slice_form row9; subst hav9; clear row9; have I9 := Hid.mk (I8.out.below b9); clear b9 I8)
    | (go_at_call 17; refine (HT3.out _).mono ?_; clear HT3; rintro ee w10 ⟨v10, rfl, row10, -, b10⟩; obtain ⟨av10, cv10, hav10, -⟩ := slice_form row10; subst hav10; clear row10; have I10 := Hid.mk ((I9.out.alloc _).below b10); clear b10 I9)
    | (go_at_call 16; refine (hBg _).mono ?_; rintro ee w11 ⟨rfl, b11⟩; have I11 := Hid.mk ((I10.out.alloc _).below b11); clear b11))
  go_ret
  exact ⟨rfl, I11.out.old⟩
theorem asked_q {m : Nat} {f : Fs} {q : Rq} (h : fsQ m f = q) : rqC m f = rqV q := by subst h; rfl
theorem law_back (q : Rq) (qW : RqW q) (op : Int) (r : Rp) (L : List Ht) (a : Option Addr) (cap : Nat) (more : ByteArray) (w : World) (hn : r.n ≤ 9223372036854775807) (hw : HtsW L) (hl : L.length < 4611686018427387904) (hsw : HsAt w a L) (hm : more.size ≤ 140737488351232) :
    Calls Try.prog 6 #[.agg (rqV q), .int .i64 op, .agg (rpC r (.slice a L.length cap)), .string more] w fun e w' => e = .returned (.bool true) ∧ Below w.heap.size w w' := by
  have hAk := fun W => ask_any q qW W
  have hTl := fun W h => tell_any op r L a cap hn hw hl W h
  have bs : ∀ l : List UInt8, l.length ≤ 8589934592 → (l ++ 120 :: more.data.toList).length < 4611686018427387904 := fun l h => by
    have e : more.data.toList.length = more.size := Array.length_toList
    rw [List.length_append, List.length_cons]
    omega
  have ls : ∀ l : List UInt8, l.length ≤ 8589934592 → l.dropLast.length < 4611686018427387904 := fun l h => by
    rw [List.length_dropLast]
    omega
  by_cases hx : (askA q).2 = 0
  · obtain ⟨⟨m, f, A1, A1'⟩, A2, A3⟩ := asked_back q qW hx
    obtain ⟨z1, z2⟩ := ask_size q qW hx
    have a1 := fun W => asked_any ⟨(askA q).1.toArray⟩ W (by rw [tsz]; omega)
    have a2 := fun W => asked_any (⟨(askA q).1.toArray⟩ ++ ⟨#[120]⟩ ++ more) W (by rw [ba_x, tsz]; exact bs _ z2)
    have a3 := fun W => asked_any ((⟨(askA q).1.toArray⟩ : ByteArray).extract 0 ((⟨(askA q).1.toArray⟩ : ByteArray).size - 1)) W (by rw [ba_last, tsz]; exact ls _ z2)
    rw [A1] at a1
    rw [ba_x, A2, ← ba_x] at a2
    rw [ba_last, A3, ← ba_last] at a3
    simp only [asked_q A1'] at a1
    by_cases hy : (tellA op r L).2 = 0
    · obtain ⟨⟨m2, en, n, t, T1, e1, e2, e3, e4⟩, T2, T3⟩ := told_back op r L hn hw hy
      obtain ⟨⟨y1, y2⟩, y3⟩ := tell_size op r L hn hw hy
      have t1 := fun W => told_any ⟨(tellA op r L).1.toArray⟩ W (by rw [tsz]; omega)
      have t2 := fun W => told_any (⟨(tellA op r L).1.toArray⟩ ++ ⟨#[120]⟩ ++ more) W (by rw [ba_x, tsz]; exact bs _ y2)
      have t3 := fun W => told_any ((⟨(tellA op r L).1.toArray⟩ : ByteArray).extract 0 ((⟨(tellA op r L).1.toArray⟩ : ByteArray).size - 1)) W (by rw [ba_last, tsz]; exact ls _ y2)
      rw [T1] at t1
      rw [ba_x, T2, ← ba_x] at t2
      rw [ba_last, T3, ← ba_last] at t3
      simp only [TdO, Tx, e1, e2, e3, e4] at t1
      exact back_yy q.op q.id q.k q.r op r.e r.n q.c r.t more L a cap w hsw hm _ _ _ _ hAk hTl hx (by rw [tsz]; exact z1) (by rw [tsz]; exact z2) a1 a2 a3 hy (by rw [tsz]; exact y1) (by rw [tsz]; exact y2) y3 t1 t2 t3
    · exact back_yn q.op q.id q.k q.r op r.e r.n q.c r.t more L a cap w hsw hm _ _ _ _ hAk hTl hx (by rw [tsz]; exact z1) (by rw [tsz]; exact z2) a1 a2 a3 hy
  · by_cases hy : (tellA op r L).2 = 0
    · obtain ⟨⟨m2, en, n, t, T1, e1, e2, e3, e4⟩, T2, T3⟩ := told_back op r L hn hw hy
      obtain ⟨⟨y1, y2⟩, y3⟩ := tell_size op r L hn hw hy
      have t1 := fun W => told_any ⟨(tellA op r L).1.toArray⟩ W (by rw [tsz]; omega)
      have t2 := fun W => told_any (⟨(tellA op r L).1.toArray⟩ ++ ⟨#[120]⟩ ++ more) W (by rw [ba_x, tsz]; exact bs _ y2)
      have t3 := fun W => told_any ((⟨(tellA op r L).1.toArray⟩ : ByteArray).extract 0 ((⟨(tellA op r L).1.toArray⟩ : ByteArray).size - 1)) W (by rw [ba_last, tsz]; exact ls _ y2)
      rw [T1] at t1
      rw [ba_x, T2, ← ba_x] at t2
      rw [ba_last, T3, ← ba_last] at t3
      simp only [TdO, Tx, e1, e2, e3, e4] at t1
      exact back_ny q.op q.id q.k q.r op r.e r.n q.c r.t more L a cap w hsw hm _ _ _ _ hAk hTl hx hy (by rw [tsz]; exact y1) (by rw [tsz]; exact y2) y3 t1 t2 t3
    · exact back_nn q.op q.id q.k q.r op r.e r.n q.c r.t more L a cap w hsw hm _ _ _ _ hAk hTl hx hy
end Go.Proofs.Ytnkepggldlobjaa
