/-
  DERIVED. Ask: for every request.
-/
import Derived.Test.YtjdknijjkjmafaaWStray
import Derived.Test.YtjdknijjkjmafaaWString
set_option linter.unusedVariables false
set_option linter.unusedSimpArgs false
namespace Go.Proofs.Ytjdknijjkjmafaa
open Go.RowKit Go.Proofs.SealMath
/-- Numbers of an int's size. -/
structure RqW (q : Rq) : Prop where
  id : q.id ≤ 9223372036854775807
  k : q.k ≤ 9223372036854775807
  r : q.r ≤ 9223372036854775807
/-- What Ask answers. -/
def askA (q : Rq) : List UInt8 × Int :=
  if 1 ≤ q.op ∧ q.op ≤ 9 then
    if stQ (q.op.toNat - 1) q then ([], 32)
    else if ckE (ckQ (q.op.toNat - 1) q).1 (ckQ (q.op.toNat - 1) q).2 0 ≠ 0 then ([], ckE (ckQ (q.op.toNat - 1) q).1 (ckQ (q.op.toNat - 1) q).2 0)
    else ([81, UInt8.ofNat q.op.toNat] ++ wrQ (q.op.toNat - 1) q, 0)
  else ([], 35)
set_option maxHeartbeats 4000000 in
set_option maxRecDepth 100000 in
theorem ask_kind (q : Rq) (w : World) (h : ¬ (1 ≤ q.op ∧ q.op ≤ 9)) :
    Calls Try.prog 13 #[.agg (rqV q)] w fun e w' => e = .returned (.tuple #[.string eB, .int .i64 35]) ∧ Below w.heap.size w w' := by
  have hf := find_no q.op h (w.alloc (.cells #[.int .i64 q.op, .int .i64 q.id, .string q.c, .int .i64 q.k, .int .i64 q.r] 40))
  have c0 : (w.alloc (.cells #[.int .i64 q.op, .int .i64 q.id, .string q.c, .int .i64 q.k, .int .i64 q.r] 40)).cell? ⟨w.heap.size, 0, none⟩ = some (.int .i64 q.op) := (HC.new w _ _).cell rfl
  have bA : Below w.heap.size w (w.alloc (.cells #[.int .i64 q.op, .int .i64 q.id, .string q.c, .int .i64 q.k, .int .i64 q.r] 40)) := (Below.refl _ w).alloc (Nat.le_refl _) _
  have HB := Hid.mk bA
  obtain ⟨V, hV⟩ : ∃ V, V = w.alloc (.cells #[.int .i64 q.op, .int .i64 q.id, .string q.c, .int .i64 q.k, .int .i64 q.r] 40) := ⟨_, rfl⟩
  have hV5 := hV.symm
  rw [← hV] at hf c0 HB
  clear h bA hV
  have hsf : ∀ (W : World) (p : Addr) (f : Fn) (x c : Array Value), (store p (.func f x c)).run Try.prog W = stored Try.prog W p (.func f x c) .plain := fun W p f x c => run_store Try.prog W p _ .plain rfl
  have hsn : ∀ (W : World) (p : Addr), (store p .nilFunc).run Try.prog W = stored Try.prog W p .nilFunc .plain := fun W p => run_store Try.prog W p _ .plain rfl
  go_enter Try.func13, Try.ntmps13
  go_wp2_with (go_at_call 34; (try rw [hV5]); refine hf.mono ?_; clear hf; rintro e w1 ⟨rfl, b1⟩; have H1 := Hid.mk b1; clear b1)
  go_ret2
  exact ⟨rfl, (chain HB.out H1.out (Nat.le_refl _)).alloc (Nat.le_trans HB.out.size H1.out.size) _⟩
/-- The boxes of Ask: the request, the operation. -/
structure KB (w : World) (W : World) (g o : Nat) (q : Rq) (m f1 f2 : Nat) : Prop where
  req : HC W g (rqV q) 40
  op : HC W o #[.int .i64 m, Fv f1 #[], Fv f2 #[]] 64
  lg : w.heap.size ≤ g
  lo : g < o
  old : Stay (fun k => w.heap.size ≤ k) w W
theorem KB.drew {w W : World} {g o : Nat} {q : Rq} {m f1 f2 : Nat} (h : KB w W g o q m f1 f2) : KB w W.drew g o q m f1 f2 := ⟨h.req, h.op, h.lg, h.lo, h.old.drew⟩
theorem KB.below {w W W' : World} {g o : Nat} {q : Rq} {m f1 f2 : Nat} (h : KB w W g o q m f1 f2) (h' : Below W.heap.size W W') : KB w W' g o q m f1 f2 := ⟨h.req.below h', h.op.below h', h.lg, h.lo, h.old.trans (.below h')⟩
theorem KB.alloc {w W : World} {g o : Nat} {q : Rq} {m f1 f2 : Nat} (h : KB w W g o q m f1 f2) (x : Obj) : KB w (W.alloc x) g o q m f1 f2 := h.below ((Below.refl _ W).alloc (Nat.le_refl _) _)
theorem KB.stay {w W W' : World} {g o : Nat} {q : Rq} {m f1 f2 : Nat} {F : Nat → Prop} (h : KB w W g o q m f1 f2) (s : Stay F W W') (hF : ∀ k, F k → o < k) : KB w W' g o q m f1 f2 :=
  ⟨h.req.stay s (fun e => by have := hF _ e; have := h.lo; omega), h.op.stay s (fun e => by have := hF _ e; omega), h.lg, h.lo, h.old.andThen s (fun i hi e => by have := hF _ e; have := h.lo; have := h.lg; omega)⟩
theorem kb_new {w w1 : World} (q : Rq) (m f1 f2 : Nat) (h : HC w1 w.heap.size (rqV q) 40) (b : Below w.heap.size w w1) : KB w (w1.alloc (.cells #[.int .i64 m, Fv f1 #[], Fv f2 #[]] 64)) w.heap.size w1.heap.size q m f1 f2 :=
  ⟨h.alloc _, HC.new w1 _ _, Nat.le_refl _, h.lt, (Stay.below b).alloc _⟩
set_option maxHeartbeats 4000000 in
set_option maxRecDepth 100000 in
theorem ask_form (i : Nat) (hi : i < 9) (q : Rq) (hop : q.op = (i + 1 : Nat)) (hst : stQ i q = true) (w : World) :
    Calls Try.prog 13 #[.agg (rqV q)] w fun e w' => e = .returned (.tuple #[.string eB, .int .i64 32]) ∧ Below w.heap.size w w' := by
  have hf := find_yes i hi (w.alloc (.cells #[.int .i64 q.op, .int .i64 q.id, .string q.c, .int .i64 q.k, .int .i64 q.r] 40))
  have hS := fun W => strays_any i hi q W
  have ent := rqF_ent i
  unfold Ent at ent
  obtain ⟨f1, hf1⟩ : ∃ f, f = rqF i := ⟨_, rfl⟩
  obtain ⟨f2, hf2⟩ : ∃ f, f = rpF i := ⟨_, rfl⟩
  obtain ⟨m, hm⟩ : ∃ m, m = i + 1 := ⟨_, rfl⟩
  simp only [opV, ← hf1, ← hf2, ← hm] at hf hS ent
  have h0 : HC (w.alloc (.cells #[.int .i64 q.op, .int .i64 q.id, .string q.c, .int .i64 q.k, .int .i64 q.r] 40)) w.heap.size (rqV q) 40 := HC.new w _ _
  have bA : Below w.heap.size w (w.alloc (.cells #[.int .i64 q.op, .int .i64 q.id, .string q.c, .int .i64 q.k, .int .i64 q.r] 40)) := (Below.refl _ w).alloc (Nat.le_refl _) _
  obtain ⟨V, hV⟩ : ∃ V, V = w.alloc (.cells #[.int .i64 q.op, .int .i64 q.id, .string q.c, .int .i64 q.k, .int .i64 q.r] 40) := ⟨_, rfl⟩
  have hV5 := hV.symm
  rw [← hV] at hf h0 bA
  have c0 : V.cell? ⟨w.heap.size, 0, none⟩ = some (.int .i64 m) := by rw [hm, ← hop]; exact h0.cell rfl
  have H0 := Hid.mk (And.intro h0 bA)
  have HN := Hid.mk (fun w1 h b => @kb_new w w1 q m f1 f2 h b)
  obtain ⟨g, hg⟩ : ∃ g, g = w.heap.size := ⟨_, rfl⟩
  simp only [hst] at hS
  clear hf1 hf2 hm hV hop hst h0 bA hg
  have hsf : ∀ (W : World) (p : Addr) (f : Fn) (x c : Array Value), (store p (.func f x c)).run Try.prog W = stored Try.prog W p (.func f x c) .plain := fun W p f x c => run_store Try.prog W p _ .plain rfl
  have hsn : ∀ (W : World) (p : Addr), (store p .nilFunc).run Try.prog W = stored Try.prog W p .nilFunc .plain := fun W p => run_store Try.prog W p _ .plain rfl
  go_enter Try.func13, Try.ntmps13
  go_wp2_with (first | (go_at_call 34; (try rw [hV5]); refine hf.mono ?_; clear hf; rintro e w1 ⟨rfl, b1⟩; have k1 := H0.out.1.below b1; have y0 : w1.cell? ⟨w.heap.size, 0, none⟩ = some (.int .i64 q.op) := k1.cell rfl; have y1 : w1.cell? ⟨w.heap.size, 1, none⟩ = some (.int .i64 q.id) := k1.cell rfl; have y2 : w1.cell? ⟨w.heap.size, 2, none⟩ = some (.string q.c) := k1.cell rfl; have y3 : w1.cell? ⟨w.heap.size, 3, none⟩ = some (.int .i64 q.k) := k1.cell rfl; have y4 : w1.cell? ⟨w.heap.size, 4, none⟩ = some (.int .i64 q.r) := k1.cell rfl; have l1 := k1.lt; have H1 := Hid.mk (HN.out w1 k1 (chain H0.out.2 b1 (Nat.le_refl _))); clear k1 b1) | (go_at_call 35; refine (hS _).mono ?_; clear hS; rintro e w2 ⟨rfl, b2⟩; have H2 := Hid.mk (H1.out.below b2); clear b2))
  go_ret2
  exact ⟨rfl, Stay.toBelow H2.out.old (fun k hk h => by omega) (Nat.le_refl _)⟩
set_option maxHeartbeats 4000000 in
set_option maxRecDepth 100000 in
theorem ask_rest (i : Nat) (hi : i < 9) (q : Rq) (hop : q.op = (i + 1 : Nat)) (hW : RqW q) (hst : stQ i q = false) (w : World) :
    Calls Try.prog 13 #[.agg (rqV q)] w fun e w' => e = .returned (.tuple #[.string ⟨(askA q).1.toArray⟩, .int .i64 (askA q).2]) ∧ Below w.heap.size w w' := by
  have hA : askA q = if ckE (ckQ i q).1 (ckQ i q).2 0 ≠ 0 then ([], ckE (ckQ i q).1 (ckQ i q).2 0) else ([81, UInt8.ofNat (i + 1)] ++ wrQ i q, 0) := by
    unfold askA
    have e : q.op.toNat = i + 1 := by omega
    rw [if_pos (by omega), e, Nat.add_sub_cancel, hst]
    rfl
  rw [hA]
  clear hA
  have hf := find_yes i hi (w.alloc (.cells #[.int .i64 q.op, .int .i64 q.id, .string q.c, .int .i64 q.k, .int .i64 q.r] 40))
  have hS := fun W => strays_any i hi q W
  have ent := rqF_ent i
  unfold Ent at ent
  obtain ⟨f1, hf1⟩ : ∃ f, f = rqF i := ⟨_, rfl⟩
  obtain ⟨f2, hf2⟩ : ∃ f, f = rpF i := ⟨_, rfl⟩
  obtain ⟨m, hm⟩ : ∃ m, m = i + 1 := ⟨_, rfl⟩
  have hK := fun W c g h1 h2 => rq_check i hi q W c g h1 h2
  have hR := fun W c (h : CkAt W c (ckQ i q).1 (ckQ i q).2 0) => refusal_any _ _ _ W c h
  have hWr := fun (hc : ckQ i q = (false, false)) W g b v h1 h2 => rq_write i hi q W g b v [81, UInt8.ofNat (i + 1)] h1 h2 ⟨hc, hW.id, hW.k, hW.r⟩ (by simp)
  have hBg := fun W => begin_any 81 (UInt8.ofNat (i + 1)) (i + 1) (rqF i) (rpF i) (by rw [UInt8.toNat_ofNat']; omega) W
  obtain ⟨d, hd⟩ : ∃ d, d = UInt8.ofNat (i + 1) := ⟨_, rfl⟩
  rw [← hd] at hWr hBg ⊢
  obtain ⟨x, hx⟩ : ∃ x, x = ckE (ckQ i q).1 (ckQ i q).2 0 := ⟨_, rfl⟩
  rw [← hx] at hR ⊢
  have hxc : x = 0 → ckQ i q = (false, false) := fun h => by
    rw [hx] at h
    rcases hq : ckQ i q with ⟨a, b⟩
    rw [hq] at h
    cases a <;> cases b <;> simp [ckE] at h ⊢
  simp only [opV, ← hf1, ← hf2, ← hm] at hf hS ent hK hWr hBg
  have h0 : HC (w.alloc (.cells #[.int .i64 q.op, .int .i64 q.id, .string q.c, .int .i64 q.k, .int .i64 q.r] 40)) w.heap.size (rqV q) 40 := HC.new w _ _
  have bA : Below w.heap.size w (w.alloc (.cells #[.int .i64 q.op, .int .i64 q.id, .string q.c, .int .i64 q.k, .int .i64 q.r] 40)) := (Below.refl _ w).alloc (Nat.le_refl _) _
  obtain ⟨V, hV⟩ : ∃ V, V = w.alloc (.cells #[.int .i64 q.op, .int .i64 q.id, .string q.c, .int .i64 q.k, .int .i64 q.r] 40) := ⟨_, rfl⟩
  have hV5 := hV.symm
  rw [← hV] at hf h0 bA
  have c0 : V.cell? ⟨w.heap.size, 0, none⟩ = some (.int .i64 m) := by rw [hm, ← hop]; exact h0.cell rfl
  have H0 := Hid.mk (And.intro h0 bA)
  have HN := Hid.mk (fun w1 h b => @kb_new w w1 q m f1 f2 h b)
  obtain ⟨g, hg⟩ : ∃ g, g = w.heap.size := ⟨_, rfl⟩
  simp only [hst] at hS
  have HK := Hid.mk hK
  have HR := Hid.mk hR
  have HW := Hid.mk (And.intro hxc hWr)
  have HBg := Hid.mk hBg
  obtain ⟨A2, hA2⟩ : ∃ A2 : List UInt8 × Int, A2 = (if x ≠ 0 then ([], x) else ([81, d] ++ wrQ i q, 0)) := ⟨_, rfl⟩
  rw [← hA2]
  have HA := Hid.mk hA2
  clear hf1 hf2 hm hV hop hst h0 bA hg hK hR hWr hBg hd hx hxc hA2 hW
  have hsf : ∀ (W : World) (p : Addr) (f : Fn) (x c : Array Value), (store p (.func f x c)).run Try.prog W = stored Try.prog W p (.func f x c) .plain := fun W p f x c => run_store Try.prog W p _ .plain rfl
  have hsn : ∀ (W : World) (p : Addr), (store p .nilFunc).run Try.prog W = stored Try.prog W p .nilFunc .plain := fun W p => run_store Try.prog W p _ .plain rfl
  go_enter Try.func13, Try.ntmps13
  go_wp2_with (first | (go_at_call 34; (try rw [hV5]); refine hf.mono ?_; clear hf; rintro e w1 ⟨rfl, b1⟩; have k1 := H0.out.1.below b1; have y0 : w1.cell? ⟨w.heap.size, 0, none⟩ = some (.int .i64 q.op) := k1.cell rfl; have y1 : w1.cell? ⟨w.heap.size, 1, none⟩ = some (.int .i64 q.id) := k1.cell rfl; have y2 : w1.cell? ⟨w.heap.size, 2, none⟩ = some (.string q.c) := k1.cell rfl; have y3 : w1.cell? ⟨w.heap.size, 3, none⟩ = some (.int .i64 q.k) := k1.cell rfl; have y4 : w1.cell? ⟨w.heap.size, 4, none⟩ = some (.int .i64 q.r) := k1.cell rfl; have l1 := k1.lt; have H1 := Hid.mk (HN.out w1 k1 (chain H0.out.2 b1 (Nat.le_refl _))); clear k1 b1) | (go_at_call 35; refine (hS _).mono ?_; clear hS; rintro e w2 ⟨rfl, b2⟩; have H2 := Hid.mk (H1.out.below b2); clear b2))
  have l2 := H2.out.op.lt
  have k3 : KB w (w2.alloc (.cells #[.bool false, .bool false, .int .i64 0] 86)) w.heap.size w1.heap.size q m f1 f2 := H2.out.alloc _
  have c3 : CkAt (w2.alloc (.cells #[.bool false, .bool false, .int .i64 0] 86)) w2.heap.size false false 0 := HC.new w2 _ _
  obtain ⟨V3, hV3⟩ : ∃ V3, V3 = w2.alloc (.cells #[.bool false, .bool false, .int .i64 0] 86) := ⟨_, rfl⟩
  rw [← hV3] at k3 c3 ⊢
  obtain ⟨g, hg⟩ : ∃ g, g = w.heap.size := ⟨_, rfl⟩
  obtain ⟨o, ho⟩ : ∃ o, o = w1.heap.size := ⟨_, rfl⟩
  obtain ⟨c, hc⟩ : ∃ c, c = w2.heap.size := ⟨_, rfl⟩
  simp only [← hg, ← ho, ← hc]
  have k3' : KB w V3 g o q m f1 f2 := by rw [hg, ho]; exact k3
  rw [← hc] at c3
  rw [← ho, ← hc] at l2
  clear hV3 hg ho hc k3 H1 H2 HN H0 c0 y0 y1 y2 y3 y4 l1 hV5
  have c1 : V3.cell? ⟨o, 1, none⟩ = some (Fv f1 #[]) := k3'.op.cell rfl
  have H3 := Hid.mk (And.intro k3' c3)
  clear k3' c3
  refine wp_region_held_drew (S := fun w' => w'.cell? ⟨o, 1, none⟩ = some (Fv f1 #[])) (by kernel_rfl) ?_ (fun hHeld => ?_)
  · exact c1
  refine wpAnyH_take (i := 0) (oi := { dst := some 20, op := Op.fieldAddr 64 (Operand.tmp 4) 1, type := 0, pos := "wire.go:25", after := #[], guard := none }) (v := ?vb0) rfl (by kernel_rfl) (by kernel_rfl) (by kernel_rfl) (fun _ _ _ h => h) (Or.inl ⟨by rfl, ?hb0⟩) (by assumption) ?rb0
  case hb0 => (intro w0 hSw; (try dsimp only at hSw); go_simp; try (with_reducible rfl))
  simp only [Act.put, List.setIfInBounds_toArray, List.set_cons_zero, List.set_cons_succ]
  refine wpAnyH_take (i := 1) (oi := { dst := some 21, op := Op.load 61 (Operand.tmp 20), type := 61, pos := "wire.go:25", after := #[{ on := 0, ground := Ground.data }], guard := none }) (v := ?vb1) rfl (by kernel_rfl) (by kernel_rfl) (by kernel_rfl) (fun _ _ _ h => h) (Or.inl ⟨by rfl, ?hb1⟩) (by assumption) ?rb1
  case hb1 => (intro w0 hSw; (try dsimp only at hSw); go_simp; try (with_reducible rfl))
  simp only [Act.put, List.setIfInBounds_toArray, List.set_cons_zero, List.set_cons_succ]
  refine wpAnyH_ready (rs := [2]) (by kernel_rfl) (by simp) ?_
  refine AllReadyH.cons rfl (fun K hK => ?_) AllReadyH.nil
  go_simp
  go_wp2_with (first | (go_at_call 36; refine (ckH_any c _).mono ?_; rintro e w4 ⟨rfl, b4⟩; have k4 := H3.out.1.drew.below b4; have c4 := HC.below (HC.drew H3.out.2) b4; clear c1; have c1 : w4.cell? ⟨o, 1, none⟩ = some (Fv f1 #[]) := k4.op.cell rfl; have H4 := Hid.mk (And.intro k4 c4); clear k4 c4 b4) | (go_at_fn f1; refine (HK.out _ c g H4.out.1.req H4.out.2).mono ?_; rintro e w5 ⟨rfl, c5, s5⟩; have k5 := H4.out.1.stay s5 (fun k e => by omega); clear c1; have c1 : w5.cell? ⟨o, 1, none⟩ = some (Fv f1 #[]) := k5.op.cell rfl; have H5 := Hid.mk (And.intro k5 c5); clear k5 c5 s5))
  refine hK.out _ _ ?_ (fun hHeld => ?_)
  · exact c1
  clear hK K
  refine wpAnyH_ready (rs := [3]) (by kernel_rfl) (by simp) ?_
  refine AllReadyH.cons rfl (fun K hK => ?_) AllReadyH.nil
  go_simp
  go_wp2_with (first | (go_at_call 36; refine (ckH_any c _).mono ?_; rintro e w4 ⟨rfl, b4⟩; have k4 := H3.out.1.drew.below b4; have c4 := HC.below (HC.drew H3.out.2) b4; clear c1; have c1 : w4.cell? ⟨o, 1, none⟩ = some (Fv f1 #[]) := k4.op.cell rfl; have H4 := Hid.mk (And.intro k4 c4); clear k4 c4 b4) | (go_at_fn f1; refine (HK.out _ c g H4.out.1.req H4.out.2).mono ?_; rintro e w5 ⟨rfl, c5, s5⟩; have k5 := H4.out.1.stay s5 (fun k e => by omega); clear c1; have c1 : w5.cell? ⟨o, 1, none⟩ = some (Fv f1 #[]) := k5.op.cell rfl; have H5 := Hid.mk (And.intro k5 c5); clear k5 c5 s5))
  refine hK.out _ _ ?_ (fun hHeld => ?_)
  · exact c1
  clear hK K
  refine wpAnyH_done (by kernel_rfl) ?_ _
  have o0 : w5.cell? ⟨o, 0, none⟩ = some (.int .i64 m) := H5.out.1.op.cell rfl
  have o2 : w5.cell? ⟨o, 2, none⟩ = some (Fv f2 #[]) := H5.out.1.op.cell rfl
  by_cases hx0 : x = 0
  · subst hx0
    have HW2 := Hid.mk (HW.out.2 (HW.out.1 rfl))
    clear HW
    go_wp2_with (first
      | (go_at_call 37; refine (HR.out _ c H5.out.2).mono ?_; rintro e w6 ⟨rfl, rfl⟩)
      | (go_at_call 38; refine (HBg.out _).mono ?_; rintro e w7 ⟨rfl, v7, b7, s7, l7⟩; have k7 := H5.out.1.below s7; have c17 : w7.cell? ⟨o, 1, none⟩ = some (Fv f1 #[]) := k7.op.cell rfl; have H7 := Hid.mk (And.intro k7 (And.intro b7 (And.intro l7 H5.out.1.op.lt))); clear k7 b7 l7 s7))
    obtain ⟨b, hb⟩ : ∃ b, b = w6.heap.size + 1 := ⟨_, rfl⟩
    simp only [← hb]
    rw [← hb] at H7
    have hob : o < b := by have := H7.out.2.2.2; omega
    have HL : Hid (∀ k, (k = b ∨ v7.ownBlock = some k) → o < k) := fun k e => by
      rcases e with e | e
      · omega
      · have := H7.out.2.2.1 k e; omega
    clear hb o0 o2 H3 H4 H5 HR HK HBg c1
    refine wp_region_held_drew (S := fun w' => w'.cell? ⟨o, 1, none⟩ = some (Fv f1 #[])) (by kernel_rfl) ?_ (fun hHeld => ?_)
    · exact c17
    refine wpAnyH_take (i := 0) (oi := { dst := some 30, op := Op.fieldAddr 64 (Operand.tmp 4) 1, type := 0, pos := "wire.go:30", after := #[], guard := none }) (v := ?vc0) rfl (by kernel_rfl) (by kernel_rfl) (by kernel_rfl) (fun _ _ _ h => h) (Or.inl ⟨by rfl, ?hc0⟩) (by assumption) ?rc0
    case hc0 => (intro w0 hSw; (try dsimp only at hSw); go_simp; try (with_reducible rfl))
    simp only [Act.put, List.setIfInBounds_toArray, List.set_cons_zero, List.set_cons_succ]
    refine wpAnyH_take (i := 1) (oi := { dst := some 31, op := Op.load 61 (Operand.tmp 30), type := 61, pos := "wire.go:30", after := #[{ on := 0, ground := Ground.data }], guard := none }) (v := ?vc1) rfl (by kernel_rfl) (by kernel_rfl) (by kernel_rfl) (fun _ _ _ h => h) (Or.inl ⟨by rfl, ?hc1⟩) (by assumption) ?rc1
    case hc1 => (intro w0 hSw; (try dsimp only at hSw); go_simp; try (with_reducible rfl))
    simp only [Act.put, List.setIfInBounds_toArray, List.set_cons_zero, List.set_cons_succ]
    refine wpAnyH_take (i := 2) (oi := { dst := some 32, op := Op.move (Operand.tmp 8), type := 88, pos := "wire.go:30", after := #[], guard := none }) (v := ?vc2) rfl (by kernel_rfl) (by kernel_rfl) (by kernel_rfl) (fun _ _ _ h => h) (Or.inl ⟨by rfl, ?hc2⟩) (by assumption) ?rc2
    case hc2 => (intro w0 hSw; (try dsimp only at hSw); go_simp; try (with_reducible rfl))
    simp only [Act.put, List.setIfInBounds_toArray, List.set_cons_zero, List.set_cons_succ]
    refine wpAnyH_ready (rs := [3]) (by kernel_rfl) (by simp) ?_
    refine AllReadyH.cons rfl (fun K hK => ?_) AllReadyH.nil
    go_simp
    go_wp2_with (first | (go_at_call 39; refine (wrH_any b _).mono ?_; rintro e w8 ⟨rfl, b8⟩; have k8 := H7.out.1.drew.below b8; have d8 := (Bd.drew H7.out.2.1).below b8; clear c17; have c17 : w8.cell? ⟨o, 1, none⟩ = some (Fv f1 #[]) := k8.op.cell rfl; have H8 := Hid.mk (And.intro k8 d8); clear k8 d8 b8) | (go_at_fn f1; refine (HW2.out _ g b v7 H8.out.1.req H8.out.2).mono ?_; rintro e w9 ⟨rfl, v9, t9⟩; have k9 := H8.out.1.stay t9.st HL.out; clear c17; have c17 : w9.cell? ⟨o, 1, none⟩ = some (Fv f1 #[]) := k9.op.cell rfl; have H9 := Hid.mk (And.intro k9 t9); clear k9 t9))
    refine hK.out _ _ ?_ (fun hHeld => ?_)
    · exact c17
    clear hK K
    refine wpAnyH_ready (rs := [4]) (by kernel_rfl) (by simp) ?_
    refine AllReadyH.cons rfl (fun K hK => ?_) AllReadyH.nil
    go_simp
    go_wp2_with (first | (go_at_call 39; refine (wrH_any b _).mono ?_; rintro e w8 ⟨rfl, b8⟩; have k8 := H7.out.1.drew.below b8; have d8 := (Bd.drew H7.out.2.1).below b8; clear c17; have c17 : w8.cell? ⟨o, 1, none⟩ = some (Fv f1 #[]) := k8.op.cell rfl; have H8 := Hid.mk (And.intro k8 d8); clear k8 d8 b8) | (go_at_fn f1; refine (HW2.out _ g b v7 H8.out.1.req H8.out.2).mono ?_; rintro e w9 ⟨rfl, v9, t9⟩; have k9 := H8.out.1.stay t9.st HL.out; clear c17; have c17 : w9.cell? ⟨o, 1, none⟩ = some (Fv f1 #[]) := k9.op.cell rfl; have H9 := Hid.mk (And.intro k9 t9); clear k9 t9))
    refine hK.out _ _ ?_ (fun hHeld => ?_)
    · exact c17
    clear hK K
    refine wpAnyH_done (by kernel_rfl) ?_ _
    have hne : [81, d] ++ wrQ i q ≠ [] := by simp
    have hSt := string_any w9 H9.out.2.bd hne
    go_wp2_with (go_at_call 40; refine hSt.mono ?_; clear hSt; rintro e w10 ⟨rfl, s10⟩; have H10 := Hid.mk s10; clear s10)
    go_ret2
    refine ⟨?_, Stay.toBelow (F := fun k => w.heap.size ≤ k) (H9.out.1.old.andThen H10.out (fun i hi e => ?_)) (fun k hk h => by omega) (Nat.le_refl _)⟩
    · rw [HA.out, if_neg (fun h => h rfl)]; try rfl
    · rcases H9.out.2.loc i e with e | e
      · have := H7.out.2.2.1 i e; have := H9.out.1.lg; have := H9.out.1.lo; omega
      · have := H8.out.1.old.size; omega
  · go_wp2_with ((go_at_call 37; refine (HR.out _ c H5.out.2).mono ?_; rintro e w6 ⟨rfl, rfl⟩))
    go_ret2
    refine ⟨?_, Stay.toBelow H5.out.1.old (fun k hk h => by omega) (Nat.le_refl _)⟩
    rw [HA.out, if_pos hx0]; try rfl
theorem ask_any (q : Rq) (hW : RqW q) (w : World) :
    Calls Try.prog 13 #[.agg (rqV q)] w fun e w' => e = .returned (.tuple #[.string ⟨(askA q).1.toArray⟩, .int .i64 (askA q).2]) ∧ Below w.heap.size w w' := by
  by_cases h : 1 ≤ q.op ∧ q.op ≤ 9
  · obtain ⟨i, hi, hop⟩ : ∃ i : Nat, i < 9 ∧ q.op = (i + 1 : Nat) := ⟨q.op.toNat - 1, by omega, by omega⟩
    cases hst : stQ i q with
    | false => exact ask_rest i hi q hop hW hst w
    | true =>
      have e : askA q = ([], 32) := by
        unfold askA
        have e : q.op.toNat = i + 1 := by omega
        rw [if_pos h, e, Nat.add_sub_cancel, hst]; rfl
      rw [e]
      exact ask_form i hi q hop hst w
  · have e : askA q = ([], 35) := by unfold askA; rw [if_neg h]
    rw [e]
    exact ask_kind q w h
end Go.Proofs.Ytjdknijjkjmafaa
