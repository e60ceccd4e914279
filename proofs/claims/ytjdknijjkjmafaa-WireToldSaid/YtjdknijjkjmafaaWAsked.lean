/-
  DERIVED. Asked: for every text.
-/
import Derived.Test.YtjdknijjkjmafaaWAsk0
import Derived.Test.YtjdknijjkjmafaaWOper
import Derived.Deep.RegionWith
set_option linter.unusedVariables false
set_option linter.unusedSimpArgs false
namespace Go.Proofs.Ytjdknijjkjmafaa
open Go.RowKit Go.Proofs.SealMath
/-- The first two bytes: what is wrong, and the operation. -/
def hdX (c : Nat) (b : ByteArray) : Int × Nat :=
  if h0 : b.size = 0 then (31, 0) else if (b[0]).toNat ≠ c then (35, 0) else if h1 : b.size = 1 then (31, 0) else if 1 ≤ (b[1]'(by omega)).toNat ∧ (b[1]'(by omega)).toNat ≤ 9 then (0, (b[1]'(by omega)).toNat - 1) else (35, 0)
theorem hdX_lt (c : Nat) (b : ByteArray) : (hdX c b).2 < 9 := by
  unfold hdX; split
  · simp
  · split
    · simp
    · split
      · simp
      · split
        · simp only; omega
        · simp
theorem oper_any (b : ByteArray) (c : Nat) (w : World) (r : Nat) (hb : b.size < 4611686018427387904) (h : RdAt w r b (0, 0)) :
    ((hdX c b).1 = 0 → 2 ≤ b.size ∧ Calls Try.prog 23 #[Pt r, .int .u8 c] w fun e w' => e = .returned (.tuple #[opV (hdX c b).2, .bool true]) ∧ RdAt w' r b (2, 0) ∧ Stay (· = r) w w') ∧
    ((hdX c b).1 ≠ 0 → ∃ p : Nat, Calls Try.prog 23 #[Pt r, .int .u8 c] w fun e w' => e = .returned (.tuple #[opZ, .bool false]) ∧ RdAt w' r b (p, (hdX c b).1) ∧ Stay (· = r) w w') := by
  unfold hdX
  by_cases h0 : b.size = 0
  · rw [dif_pos h0]
    exact ⟨fun h => by simp at h, fun _ => ⟨0, oper_empty b c w r hb h0 h⟩⟩
  · rw [dif_neg h0]
    by_cases hc : (b[0]).toNat = c
    · rw [if_neg (fun h => h hc)]
      by_cases h1 : b.size = 1
      · rw [dif_pos h1]
        exact ⟨fun h => by simp at h, fun _ => ⟨1, oper_short b c w r hb h1 hc h⟩⟩
      · rw [dif_neg h1]
        have h2 : 2 ≤ b.size := by omega
        by_cases h3 : 1 ≤ (b[1]).toNat ∧ (b[1]).toNat ≤ 9
        · rw [if_pos h3]
          refine ⟨fun _ => ⟨h2, ?_⟩, fun h => absurd rfl h⟩
          exact oper_yes b c ((b[1]).toNat - 1) w r hb h2 hc (by omega) (by omega) h
        · rw [if_neg h3]
          exact ⟨fun h => by simp at h, fun _ => ⟨2, oper_none b c w r hb h2 hc h3 h⟩⟩
    · rw [if_pos hc]
      exact ⟨fun h => by simp at h, fun _ => ⟨1, oper_kind b c w r hb (by omega) hc h⟩⟩
def zFs : Fs := ⟨0, [], 0, 0⟩
/-- What Asked answers: the operation, the fields, the refusal. -/
def askedA (b : ByteArray) : Nat × Fs × Int :=
  if (hdX 81 b).1 ≠ 0 then (0, zFs, (hdX 81 b).1) else if endE b (rdQ (hdX 81 b).2 b (2, 0)).2 ≠ 0 then (0, zFs, endE b (rdQ (hdX 81 b).2 b (2, 0)).2) else ((hdX 81 b).2 + 1, (rdQ (hdX 81 b).2 b (2, 0)).1, 0)
theorem put5 {w : World} {g : Nat} {a0 b0 c0 d0 e0 : Value} {T : TypeId} (h : HC w g #[a0, b0, c0, d0, e0] T) (a b c d e : Value) :
    HC (((((w.setCell ⟨g, 0, none⟩ a).setCell ⟨g, 1, none⟩ b).setCell ⟨g, 2, none⟩ c).setCell ⟨g, 3, none⟩ d).setCell ⟨g, 4, none⟩ e) g #[a, b, c, d, e] T ∧ Stay (· = g) w (((((w.setCell ⟨g, 0, none⟩ a).setCell ⟨g, 1, none⟩ b).setCell ⟨g, 2, none⟩ c).setCell ⟨g, 3, none⟩ d).setCell ⟨g, 4, none⟩ e) :=
  ⟨HC.set (HC.set (HC.set (HC.set (HC.set h 0 a) 1 b) 2 c) 3 d) 4 e, (((((Stay.refl (· = g) w).setCell (p := ⟨g, 0, none⟩) (fun _ => rfl) a).setCell (p := ⟨g, 1, none⟩) (fun _ => rfl) b).setCell (p := ⟨g, 2, none⟩) (fun _ => rfl) c).setCell (p := ⟨g, 3, none⟩) (fun _ => rfl) d).setCell (p := ⟨g, 4, none⟩) (fun _ => rfl) e⟩
theorem two_new (w : World) (b : ByteArray) : HC ((w.alloc (.cells #[.int .i64 0, .int .i64 0, .string ⟨#[]⟩, .int .i64 0, .int .i64 0] 40)).alloc (.cells #[.string b, .int .i64 0, .int .i64 0] 60)) w.heap.size #[.int .i64 0, .int .i64 0, .string ⟨#[]⟩, .int .i64 0, .int .i64 0] 40 ∧ RdAt ((w.alloc (.cells #[.int .i64 0, .int .i64 0, .string ⟨#[]⟩, .int .i64 0, .int .i64 0] 40)).alloc (.cells #[.string b, .int .i64 0, .int .i64 0] 60)) (w.heap.size + 1) b (0, 0) ∧ ((w.alloc (.cells #[.int .i64 0, .int .i64 0, .string ⟨#[]⟩, .int .i64 0, .int .i64 0] 40)).alloc (.cells #[.string b, .int .i64 0, .int .i64 0] 60)).heap.size = w.heap.size + 2 ∧ Stay (fun k => w.heap.size ≤ k) w ((w.alloc (.cells #[.int .i64 0, .int .i64 0, .string ⟨#[]⟩, .int .i64 0, .int .i64 0] 40)).alloc (.cells #[.string b, .int .i64 0, .int .i64 0] 60)) := by
  refine ⟨HC.alloc (HC.new w _ _) _, ?_, by simp, ((Stay.refl _ w).alloc _).alloc _⟩
  have := HC.new (w.alloc (.cells #[.int .i64 0, .int .i64 0, .string ⟨#[]⟩, .int .i64 0, .int .i64 0] 40)) #[.string b, .int .i64 0, .int .i64 0] 60
  have e : (w.alloc (.cells #[.int .i64 0, .int .i64 0, .string ⟨#[]⟩, .int .i64 0, .int .i64 0] 40)).heap.size = w.heap.size + 1 := by simp
  rw [e] at this
  exact this
set_option maxHeartbeats 4000000 in
set_option maxRecDepth 100000 in
theorem asked_no (b : ByteArray) (w : World) (hb : b.size < 4611686018427387904) (hx : (hdX 81 b).1 ≠ 0) :
    Calls Try.prog 14 #[.string b] w fun e w' => e = .returned (.tuple #[.agg (rqC 0 zFs), .int .i64 (hdX 81 b).1]) ∧ Below w.heap.size w w' := by
  obtain ⟨q2, r2, z2, s2⟩ := two_new w b
  obtain ⟨p, ho⟩ := (oper_any b 81 _ _ hb r2).2 hx
  obtain ⟨x, hxe⟩ : ∃ x, x = (hdX 81 b).1 := ⟨_, rfl⟩
  rw [← hxe] at ho ⊢
  obtain ⟨r, hr⟩ : ∃ r, r = w.heap.size + 1 := ⟨_, rfl⟩
  rw [← hr] at ho r2
  have hrl : w.heap.size < r := by omega
  obtain ⟨V, hV⟩ : ∃ V, V = ((w.alloc (.cells #[.int .i64 0, .int .i64 0, .string ⟨#[]⟩, .int .i64 0, .int .i64 0] 40)).alloc (.cells #[.string b, .int .i64 0, .int .i64 0] 60)) := ⟨_, rfl⟩
  rw [← hV] at ho r2 q2 s2
  have HH := Hid.mk (And.intro q2 (And.intro r2 s2))
  have HV := Hid.mk hV
  have hr2 : (w.alloc (.cells #[.int .i64 0, .int .i64 0, .string ⟨#[]⟩, .int .i64 0, .int .i64 0] 40)).heap.size = r := by rw [hr]; simp
  clear hx hxe r2 q2 s2 z2 hr
  have hsf : ∀ (W : World) (p : Addr) (f : Fn) (x c : Array Value), (store p (.func f x c)).run Try.prog W = stored Try.prog W p (.func f x c) .plain := fun W p f x c => run_store Try.prog W p _ .plain rfl
  have hsn : ∀ (W : World) (p : Addr), (store p .nilFunc).run Try.prog W = stored Try.prog W p .nilFunc .plain := fun W p => run_store Try.prog W p _ .plain rfl
  go_enter Try.func14, Try.ntmps14
  go_wp2_with (go_at_call 23; rw [← HV.out]; refine ho.mono ?_; clear ho; rintro e w3 ⟨rfl, r3, s3⟩; have k3 := HC.stay HH.out.1 s3 (fun e => by omega); have c2 : w3.cell? ⟨r, 2, none⟩ = some (.int .i64 x) := HC.cell r3 rfl; have q0 : w3.cell? ⟨w.heap.size, 0, none⟩ = some (.int .i64 0) := k3.cell rfl; have q1 : w3.cell? ⟨w.heap.size, 1, none⟩ = some (.int .i64 0) := k3.cell rfl; have q2 : w3.cell? ⟨w.heap.size, 2, none⟩ = some (.string ⟨#[]⟩) := k3.cell rfl; have q3 : w3.cell? ⟨w.heap.size, 3, none⟩ = some (.int .i64 0) := k3.cell rfl; have q4 : w3.cell? ⟨w.heap.size, 4, none⟩ = some (.int .i64 0) := k3.cell rfl; have z0 := k3.free 0; have z1 := k3.free 1; have z2 := k3.free 2; have z3 := k3.free 3; have z4 := k3.free 4; have H3 := Hid.mk (And.intro k3 (And.intro r3 (HH.out.2.2.andThen s3 (fun i hi e => by omega)))); clear k3 r3 s3)
  obtain ⟨V3, hV3⟩ : ∃ V3, V3 = w3.alloc (.cells #[.int .i64 0, .nilFunc, .nilFunc] 64) := ⟨_, rfl⟩
  rw [← hV3]
  have k3 := HC.alloc H3.out.1 (.cells #[.int .i64 0, .nilFunc, .nilFunc] 64)
  have r3 := HC.alloc H3.out.2.1 (.cells #[.int .i64 0, .nilFunc, .nilFunc] 64)
  have s3 := H3.out.2.2.alloc (.cells #[.int .i64 0, .nilFunc, .nilFunc] 64)
  rw [← hV3] at k3 r3 s3
  have hrb : r ≠ w.heap.size := by omega
  clear c2 q0 q1 q2 q3 q4 z0 z1 z2 z3 z4 hV3
  have c2 : V3.cell? ⟨r, 2, none⟩ = some (.int .i64 x) := HC.cell r3 rfl
  have q0 : V3.cell? ⟨w.heap.size, 0, none⟩ = some (.int .i64 0) := HC.cell k3 rfl
  have z0 := HC.free k3 0
  have q1 : V3.cell? ⟨w.heap.size, 1, none⟩ = some (.int .i64 0) := HC.cell k3 rfl
  have z1 := HC.free k3 1
  have q2 : V3.cell? ⟨w.heap.size, 2, none⟩ = some (.string ⟨#[]⟩) := HC.cell k3 rfl
  have z2 := HC.free k3 2
  have q3 : V3.cell? ⟨w.heap.size, 3, none⟩ = some (.int .i64 0) := HC.cell k3 rfl
  have z3 := HC.free k3 3
  have q4 : V3.cell? ⟨w.heap.size, 4, none⟩ = some (.int .i64 0) := HC.cell k3 rfl
  have z4 := HC.free k3 4
  have H4 := Hid.mk (And.intro k3 (And.intro r3 s3))
  clear k3 r3 s3
  obtain ⟨K9, S9⟩ := put5 H4.out.1 (.int .i64 0) (.int .i64 0) (.string ⟨#[]⟩) (.int .i64 0) (.int .i64 0)
  have R9 := HC.stay H4.out.2.1 S9 hrb
  have d2 : (((((V3.setCell ⟨w.heap.size, 0, none⟩ (.int .i64 0)).setCell ⟨w.heap.size, 1, none⟩ (.int .i64 0)).setCell ⟨w.heap.size, 2, none⟩ (.string ⟨#[]⟩)).setCell ⟨w.heap.size, 3, none⟩ (.int .i64 0)).setCell ⟨w.heap.size, 4, none⟩ (.int .i64 0)).drew.cell? ⟨r, 2, none⟩ = some (.int .i64 x) := HC.cell (HC.drew R9) rfl
  have HK := Hid.mk (And.intro (HC.drew K9) S9.drew)
  clear K9 S9 R9
  refine wp_region_held_drew (S := fun w' => w'.cell? ⟨r, 2, none⟩ = some (.int .i64 x)) (by kernel_rfl) ?_ (fun hHeld => ?_)
  · exact c2
  refine wpAnyH_take (i := 0) (oi := { dst := some 17, op := Op.build 40 #[], type := 40, pos := "wire.go:39", after := #[], guard := none }) (v := ?va0) rfl (by kernel_rfl) (by kernel_rfl) (by kernel_rfl) (fun _ _ _ h => h) (Or.inl ⟨by rfl, ?ha0⟩) (by assumption) ?ra0
  case ha0 => (intro w0 hSw; (try dsimp only at hSw); go_simp; try (with_reducible rfl))
  simp only [Act.put, List.setIfInBounds_toArray, List.set_cons_zero, List.set_cons_succ]
  refine wpAnyH_take (i := 1) (oi := { dst := some 18, op := Op.fieldAddr 60 (Operand.tmp 4) 2, type := 0, pos := "wire.go:39", after := #[{ on := 3, ground := Ground.gcOnly Departure.lateStores }], guard := none }) (v := ?va1) rfl (by kernel_rfl) (by kernel_rfl) (by kernel_rfl) (fun _ _ _ h => h) (Or.inl ⟨by rfl, ?ha1⟩) (by assumption) ?ra1
  case ha1 => (intro w0 hSw; (try dsimp only at hSw); go_simp; try (with_reducible rfl))
  simp only [Act.put, List.setIfInBounds_toArray, List.set_cons_zero, List.set_cons_succ]
  refine wpAnyH_take (i := 2) (oi := { dst := some 19, op := Op.load 27 (Operand.tmp 18), type := 27, pos := "wire.go:39", after := #[{ on := 1, ground := Ground.data }, { on := 3, ground := Ground.gcOnly Departure.lateStores }], guard := none }) (v := ?va2) rfl (by kernel_rfl) (by kernel_rfl) (by kernel_rfl) (fun _ _ _ h => h) (Or.inl ⟨by rfl, ?ha2⟩) (by assumption) ?ra2
  case ha2 => (intro w0 hSw; (try dsimp only at hSw); go_simp; try (with_reducible rfl))
  simp only [Act.put, List.setIfInBounds_toArray, List.set_cons_zero, List.set_cons_succ]
  refine wpAnyH_ready (rs := [3]) (by kernel_rfl) (by simp) ?_
  refine AllReadyH.cons rfl (fun K hK => ?_) AllReadyH.nil
  go_simp
  go_wp2_with (fail)
  refine hK.out _ _ ?_ (fun hHeld => ?_)
  · exact d2
  clear hK K
  refine wpAnyH_take (i := 4) (oi := { dst := some 3, op := Op.assign (Operand.tmp 19), type := 27, pos := "wire.go:39", after := #[{ on := 2, ground := Ground.data }, { on := 3, ground := Ground.chain }, { on := 0, ground := Ground.phase }, { on := 1, ground := Ground.phase }, { on := 2, ground := Ground.phase }, { on := 3, ground := Ground.phase }], guard := none }) (v := ?va4) rfl (by kernel_rfl) (by kernel_rfl) (by kernel_rfl) (fun _ _ _ h => h) (Or.inl ⟨by rfl, ?ha4⟩) (by assumption) ?ra4
  case ha4 => (intro w0 hSw; (try dsimp only at hSw); go_simp; try (with_reducible rfl))
  simp only [Act.put, List.setIfInBounds_toArray, List.set_cons_zero, List.set_cons_succ]
  refine wpAnyH_done (by kernel_rfl) ?_ _
  go_wp2
  obtain ⟨W9, hW9⟩ : ∃ W9, W9 = (((((V3.setCell ⟨w.heap.size, 0, none⟩ (.int .i64 0)).setCell ⟨w.heap.size, 1, none⟩ (.int .i64 0)).setCell ⟨w.heap.size, 2, none⟩ (.string ⟨#[]⟩)).setCell ⟨w.heap.size, 3, none⟩ (.int .i64 0)).setCell ⟨w.heap.size, 4, none⟩ (.int .i64 0)).drew := ⟨_, rfl⟩
  rw [← hW9] at HK ⊢
  have v0 : W9.cell? ⟨w.heap.size, 0, none⟩ = some (.int .i64 0) := HK.out.1.cell rfl
  have v1 : W9.cell? ⟨w.heap.size, 1, none⟩ = some (.int .i64 0) := HK.out.1.cell rfl
  have v2 : W9.cell? ⟨w.heap.size, 2, none⟩ = some (.string ⟨#[]⟩) := HK.out.1.cell rfl
  have v3 : W9.cell? ⟨w.heap.size, 3, none⟩ = some (.int .i64 0) := HK.out.1.cell rfl
  have v4 : W9.cell? ⟨w.heap.size, 4, none⟩ = some (.int .i64 0) := HK.out.1.cell rfl
  refine bodyPost_ret (v := .tuple #[.agg #[(.int .i64 0), (.int .i64 0), (.string ⟨#[]⟩), (.int .i64 0), (.int .i64 0)], .int .i64 x]) (by simp [results, Try.results14, go_sem, v0, v1, v2, v3, v4]; try rfl) rfl ?_
  refine ⟨rfl, Stay.toBelow (F := fun k => w.heap.size ≤ k) (H4.out.2.2.andThen HK.out.2 (fun i hi e => by omega)) (fun k hk h => by omega) (Nat.le_refl _)⟩
theorem rqF_ent (i : Nat) : Ent (rqF i) := by
  have : i = 0 ∨ i = 1 ∨ i = 2 ∨ i = 3 ∨ i = 4 ∨ 5 ≤ i := by omega
  rcases this with rfl | rfl | rfl | rfl | rfl | h
  · intro args W; unfold rqF; kernel_rfl
  · intro args W; unfold rqF; kernel_rfl
  · intro args W; unfold rqF; kernel_rfl
  · intro args W; unfold rqF; kernel_rfl
  · intro args W; unfold rqF; kernel_rfl
  · have e : rqF i = 74 := by
      match i, h with
      | _ + 5, _ => rfl
    rw [e]
    intro args W; kernel_rfl
theorem rdQ_le (i : Nat) (b : ByteArray) (s : RS) (h : s.1 ≤ b.size) : (rdQ i b s).2.1 ≤ b.size := by
  unfold rdQ
  split
  · exact (rdT_le b _ (rdN_le b s h).1).1
  · exact (rdN_le b s h).1
  · exact (rdN_le b s h).1
  · exact (rdN_le b _ (rdT_le b s h).1).1
  · exact (rdN_le b _ (rdT_le b s h).1).1
  · exact h
/-- The boxes of Asked: the result's, the reader, the operation, the request. -/
structure AB (w : World) (W : World) (r o g : Nat) (b : ByteArray) (s : RS) (m f1 f2 : Nat) (f : Fs) : Prop where
  res : HC W w.heap.size #[.int .i64 0, .int .i64 0, .string ⟨#[]⟩, .int .i64 0, .int .i64 0] 40
  rd : RdAt W r b s
  op : HC W o #[.int .i64 m, Fv f1 #[], Fv f2 #[]] 64
  req : HC W g (rqC m f) 40
  lr : w.heap.size < r
  lo : r < o
  lg : o < g
  old : Stay (fun k => w.heap.size ≤ k) w W
theorem AB.drew {w W : World} {r o g : Nat} {b : ByteArray} {s : RS} {m f1 f2 : Nat} {f : Fs} (h : AB w W r o g b s m f1 f2 f) : AB w W.drew r o g b s m f1 f2 f := ⟨h.res, h.rd, h.op, h.req, h.lr, h.lo, h.lg, h.old.drew⟩
theorem AB.below {w W W' : World} {r o g : Nat} {b : ByteArray} {s : RS} {m f1 f2 : Nat} {f : Fs} (h : AB w W r o g b s m f1 f2 f) (h' : Below W.heap.size W W') : AB w W' r o g b s m f1 f2 f :=
  ⟨h.res.below h', HC.below h.rd h', h.op.below h', HC.below h.req h', h.lr, h.lo, h.lg, h.old.trans (.below h')⟩
theorem AB.read {w W W' : World} {r o g : Nat} {b : ByteArray} {s s' : RS} {m f1 f2 : Nat} {f f' : Fs} (h : AB w W r o g b s m f1 f2 f) (h1 : RdAt W' r b s') (h2 : HC W' g (rqC m f') 40) (st : Stay (fun k => k = r ∨ k = g) W W') : AB w W' r o g b s' m f1 f2 f' := by
  have l1 := h.lr; have l2 := h.lo; have l3 := h.lg
  exact ⟨h.res.stay st (fun e => by rcases e with e | e <;> omega), h1, h.op.stay st (fun e => by rcases e with e | e <;> omega), h2, h.lr, h.lo, h.lg, h.old.andThen st (fun i hi e => by rcases e with e | e <;> omega)⟩
theorem ab_new {w w3 : World} {r : Nat} {b : ByteArray} {s : RS} (m f1 f2 : Nat) (h : HC w3 w.heap.size #[.int .i64 0, .int .i64 0, .string ⟨#[]⟩, .int .i64 0, .int .i64 0] 40) (h1 : RdAt w3 r b s) (lr : w.heap.size < r) (st : Stay (fun k => w.heap.size ≤ k) w w3) :
    AB w ((w3.alloc (.cells #[.int .i64 m, Fv f1 #[], Fv f2 #[]] 64)).alloc (.cells #[.int .i64 m, .int .i64 0, .string ⟨#[]⟩, .int .i64 0, .int .i64 0] 40)) r w3.heap.size (w3.heap.size + 1) b s m f1 f2 zFs := by
  refine ⟨HC.alloc (HC.alloc h _) _, HC.alloc (HC.alloc h1 _) _, HC.alloc (HC.new w3 _ _) _, ?_, lr, h1.lt, by omega, (st.alloc _).alloc _⟩
  have := HC.new (w3.alloc (.cells #[.int .i64 m, Fv f1 #[], Fv f2 #[]] 64)) #[.int .i64 m, .int .i64 0, .string ⟨#[]⟩, .int .i64 0, .int .i64 0] 40
  have e : (w3.alloc (.cells #[.int .i64 m, Fv f1 #[], Fv f2 #[]] 64)).heap.size = w3.heap.size + 1 := by simp
  rw [e] at this
  exact this
set_option maxHeartbeats 4000000 in
set_option maxRecDepth 100000 in
theorem asked_ok (b : ByteArray) (w : World) (hb : b.size < 4611686018427387904) (hx : (hdX 81 b).1 = 0) :
    Calls Try.prog 14 #[.string b] w fun e w' => e = .returned (.tuple #[.agg (rqC (askedA b).1 (askedA b).2.1), .int .i64 (askedA b).2.2]) ∧ Below w.heap.size w w' := by
  obtain ⟨q2, r2, z2, s2⟩ := two_new w b
  obtain ⟨hsz, ho⟩ := (oper_any b 81 _ _ hb r2).1 hx
  have hi := hdX_lt 81 b
  have hA : askedA b = if endE b (rdQ (hdX 81 b).2 b (2, 0)).2 ≠ 0 then (0, zFs, endE b (rdQ (hdX 81 b).2 b (2, 0)).2) else ((hdX 81 b).2 + 1, (rdQ (hdX 81 b).2 b (2, 0)).1, 0) := by unfold askedA; rw [if_neg (fun h => h hx)]
  obtain ⟨i, hie⟩ : ∃ i, i = (hdX 81 b).2 := ⟨_, rfl⟩
  rw [← hie] at ho hi hA
  rw [hA]
  have hq := fun W r g h1 h2 => rq_read i hi b (2, 0) W r g hb hsz h1 h2
  have hle := rdQ_le i b (2, 0) hsz
  have he := fun W r (h1 : RdAt W r b (rdQ i b (2, 0)).2) => end_any b _ W r hb h1
  obtain ⟨F, s1, hF⟩ : ∃ F s1, rdQ i b (2, 0) = (F, s1) := ⟨_, _, rfl⟩
  rw [hF] at hq hle he ⊢
  have ent := rqF_ent i
  unfold Ent at ent
  obtain ⟨f1, hf1⟩ : ∃ f, f = rqF i := ⟨_, rfl⟩
  obtain ⟨f2, hf2⟩ : ∃ f, f = rpF i := ⟨_, rfl⟩
  obtain ⟨m, hm⟩ : ∃ m, m = i + 1 := ⟨_, rfl⟩
  simp only [opV, ← hf1, ← hf2, ← hm] at ho hq ent ⊢
  obtain ⟨x, hxe⟩ : ∃ x, x = endE b s1 := ⟨_, rfl⟩
  rw [← hxe] at he ⊢
  obtain ⟨A3, hA3⟩ : ∃ A3 : Nat × Fs × Int, A3 = (if x ≠ 0 then (0, zFs, x) else (m, F, 0)) := ⟨_, rfl⟩
  rw [← hA3]
  have HA := Hid.mk hA3
  clear hA3
  obtain ⟨r, hr⟩ : ∃ r, r = w.heap.size + 1 := ⟨_, rfl⟩
  rw [← hr] at ho r2
  have hrl : w.heap.size < r := by omega
  obtain ⟨V, hV⟩ : ∃ V, V = ((w.alloc (.cells #[.int .i64 0, .int .i64 0, .string ⟨#[]⟩, .int .i64 0, .int .i64 0] 40)).alloc (.cells #[.string b, .int .i64 0, .int .i64 0] 60)) := ⟨_, rfl⟩
  rw [← hV] at ho r2 q2 s2
  have HH := Hid.mk (And.intro q2 (And.intro r2 s2))
  have HV := Hid.mk hV
  have HQ := Hid.mk hq
  have HE := Hid.mk he
  have HN := Hid.mk (fun w3 => @ab_new w w3 r b (2, 0) m f1 f2)
  have hr2 : (w.alloc (.cells #[.int .i64 0, .int .i64 0, .string ⟨#[]⟩, .int .i64 0, .int .i64 0] 40)).heap.size = r := by rw [hr]; simp
  clear hx hxe r2 q2 s2 z2 hr hA hF hf1 hf2 hm hie hq he hle hsz hi
  have hsf : ∀ (W : World) (p : Addr) (f : Fn) (x c : Array Value), (store p (.func f x c)).run Try.prog W = stored Try.prog W p (.func f x c) .plain := fun W p f x c => run_store Try.prog W p _ .plain rfl
  have hsn : ∀ (W : World) (p : Addr), (store p .nilFunc).run Try.prog W = stored Try.prog W p .nilFunc .plain := fun W p => run_store Try.prog W p _ .plain rfl
  go_enter Try.func14, Try.ntmps14
  go_wp2_with (go_at_call 23; rw [← HV.out]; refine ho.mono ?_; clear ho; rintro e w3 ⟨rfl, r3, s3⟩; have k3 := HC.stay HH.out.1 s3 (fun e => by omega); have H3 := Hid.mk (And.intro k3 (And.intro r3 (HH.out.2.2.andThen s3 (fun i hi e => by omega)))); clear k3 r3 s3)
  have hAB := HN.out w3 H3.out.1 H3.out.2.1 hrl H3.out.2.2
  obtain ⟨V4, hV4⟩ : ∃ V4, V4 = ((w3.alloc (.cells #[.int .i64 m, Fv f1 #[], Fv f2 #[]] 64)).alloc (.cells #[.int .i64 m, .int .i64 0, .string ⟨#[]⟩, .int .i64 0, .int .i64 0] 40)) := ⟨_, rfl⟩
  have hV5 : ((w3.alloc (.cells #[.int .i64 m, Fv f1 #[], Fv f2 #[]] 64)).alloc (.cells #[.int .i64 m, .int .i64 0, .string ⟨#[]⟩, .int .i64 0, .int .i64 0] 40)) = V4 := hV4.symm
  rw [hV5]
  rw [← hV4] at hAB
  obtain ⟨o, ho⟩ : ∃ o, o = w3.heap.size := ⟨_, rfl⟩
  obtain ⟨g, hg⟩ : ∃ g, g = w3.heap.size + 1 := ⟨_, rfl⟩
  simp only [← hg]
  simp only [← ho]
  rw [← hg, ← ho] at hAB
  clear hV4 hV5 ho hg H3 HN HH HV hV hr2
  have c1 : V4.cell? ⟨o, 1, none⟩ = some (Fv f1 #[]) := hAB.op.cell rfl
  have H4 := Hid.mk hAB
  clear hAB
  refine wp_region_held_drew (S := fun w' => w'.cell? ⟨o, 1, none⟩ = some (Fv f1 #[])) (by kernel_rfl) ?_ (fun hHeld => ?_)
  · exact c1
  refine wpAnyH_take (i := 0) (oi := { dst := some 23, op := Op.fieldAddr 64 (Operand.tmp 5) 1, type := 0, pos := "wire.go:42", after := #[], guard := none }) (v := ?vb0) rfl (by kernel_rfl) (by kernel_rfl) (by kernel_rfl) (fun _ _ _ h => h) (Or.inl ⟨by rfl, ?hb0⟩) (by assumption) ?rb0
  case hb0 => (intro w0 hSw; (try dsimp only at hSw); go_simp; try (with_reducible rfl))
  simp only [Act.put, List.setIfInBounds_toArray, List.set_cons_zero, List.set_cons_succ]
  refine wpAnyH_take (i := 1) (oi := { dst := some 24, op := Op.load 61 (Operand.tmp 23), type := 61, pos := "wire.go:42", after := #[{ on := 0, ground := Ground.data }], guard := none }) (v := ?vb1) rfl (by kernel_rfl) (by kernel_rfl) (by kernel_rfl) (fun _ _ _ h => h) (Or.inl ⟨by rfl, ?hb1⟩) (by assumption) ?rb1
  case hb1 => (intro w0 hSw; (try dsimp only at hSw); go_simp; try (with_reducible rfl))
  simp only [Act.put, List.setIfInBounds_toArray, List.set_cons_zero, List.set_cons_succ]
  refine wpAnyH_ready (rs := [2]) (by kernel_rfl) (by simp) ?_
  refine AllReadyH.cons rfl (fun K hK => ?_) AllReadyH.nil
  go_simp
  go_wp2_with (first | (go_at_call 26; refine (rdH_any r _).mono ?_; rintro e w5 ⟨rfl, b5⟩; have h5 := H4.out.drew.below b5; clear b5 H4 c1; have c1 : w5.cell? ⟨o, 1, none⟩ = some (Fv f1 #[]) := h5.op.cell rfl; have H5 := Hid.mk h5; clear h5) | (go_at_fn f1; refine (HQ.out _ r g H5.out.rd H5.out.req).mono ?_; rintro e w6 ⟨rfl, r6, g6, s6⟩; have h6 := H5.out.read r6 g6 s6; clear r6 g6 s6 H5 c1; have c1 : w6.cell? ⟨o, 1, none⟩ = some (Fv f1 #[]) := h6.op.cell rfl; have H6 := Hid.mk h6; clear h6))
  refine hK.out _ _ ?_ (fun hHeld => ?_)
  · exact c1
  clear hK K
  refine wpAnyH_ready (rs := [3]) (by kernel_rfl) (by simp) ?_
  refine AllReadyH.cons rfl (fun K hK => ?_) AllReadyH.nil
  go_simp
  go_wp2_with (first | (go_at_call 26; refine (rdH_any r _).mono ?_; rintro e w5 ⟨rfl, b5⟩; have h5 := H4.out.drew.below b5; clear b5 H4 c1; have c1 : w5.cell? ⟨o, 1, none⟩ = some (Fv f1 #[]) := h5.op.cell rfl; have H5 := Hid.mk h5; clear h5) | (go_at_fn f1; refine (HQ.out _ r g H5.out.rd H5.out.req).mono ?_; rintro e w6 ⟨rfl, r6, g6, s6⟩; have h6 := H5.out.read r6 g6 s6; clear r6 g6 s6 H5 c1; have c1 : w6.cell? ⟨o, 1, none⟩ = some (Fv f1 #[]) := h6.op.cell rfl; have H6 := Hid.mk h6; clear h6))
  refine hK.out _ _ ?_ (fun hHeld => ?_)
  · exact c1
  clear hK K
  refine wpAnyH_done (by kernel_rfl) ?_ _
  by_cases hx0 : x = 0
  · subst hx0
    go_wp2_with (go_at_call 27; refine (HE.out _ r H6.out.rd).mono ?_; rintro e w7 ⟨rfl, s7⟩; have k7 := H6.out.res.stay s7 (fun e => by have := H6.out.lr; omega); have g7 := HC.stay H6.out.req s7 (fun e => by have := H6.out.lo; have := H6.out.lg; omega); have t7 := H6.out.old.andThen s7 (fun i hi e => by have := H6.out.lr; omega); have q0 : w7.cell? ⟨w.heap.size, 0, none⟩ = some (.int .i64 0) := k7.cell rfl; have z0 := k7.free 0; have q1 : w7.cell? ⟨w.heap.size, 1, none⟩ = some (.int .i64 0) := k7.cell rfl; have z1 := k7.free 1; have q2 : w7.cell? ⟨w.heap.size, 2, none⟩ = some (.string ⟨#[]⟩) := k7.cell rfl; have z2 := k7.free 2; have q3 : w7.cell? ⟨w.heap.size, 3, none⟩ = some (.int .i64 0) := k7.cell rfl; have z3 := k7.free 3; have q4 : w7.cell? ⟨w.heap.size, 4, none⟩ = some (.int .i64 0) := k7.cell rfl; have z4 := k7.free 4; have y0 : w7.cell? ⟨g, 0, none⟩ = some (.int .i64 m) := g7.cell rfl; have y1 : w7.cell? ⟨g, 1, none⟩ = some (.int .i64 F.id) := g7.cell rfl; have y2 : w7.cell? ⟨g, 2, none⟩ = some (Tx F.c) := g7.cell rfl; have y3 : w7.cell? ⟨g, 3, none⟩ = some (.int .i64 F.k) := g7.cell rfl; have y4 : w7.cell? ⟨g, 4, none⟩ = some (.int .i64 F.r) := g7.cell rfl; have hgl : w.heap.size < g := (by have := H6.out.lr; have := H6.out.lo; have := H6.out.lg; omega); have H7 := Hid.mk (And.intro k7 t7); clear k7 g7 t7 s7)
    obtain ⟨K9, S9⟩ := put5 H7.out.1 (.int .i64 m) (.int .i64 F.id) (Tx F.c) (.int .i64 F.k) (.int .i64 F.r)
    have HK := Hid.mk (And.intro K9 S9)
    clear K9 S9
    obtain ⟨W9, hW9⟩ : ∃ W9, W9 = (((((w7.setCell ⟨w.heap.size, 0, none⟩ (.int .i64 m)).setCell ⟨w.heap.size, 1, none⟩ (.int .i64 F.id)).setCell ⟨w.heap.size, 2, none⟩ (Tx F.c)).setCell ⟨w.heap.size, 3, none⟩ (.int .i64 F.k)).setCell ⟨w.heap.size, 4, none⟩ (.int .i64 F.r)) := ⟨_, rfl⟩
    rw [← hW9] at HK ⊢
    have v0 : W9.cell? ⟨w.heap.size, 0, none⟩ = some (.int .i64 m) := HK.out.1.cell rfl
    have v1 : W9.cell? ⟨w.heap.size, 1, none⟩ = some (.int .i64 F.id) := HK.out.1.cell rfl
    have v2 : W9.cell? ⟨w.heap.size, 2, none⟩ = some (Tx F.c) := HK.out.1.cell rfl
    have v3 : W9.cell? ⟨w.heap.size, 3, none⟩ = some (.int .i64 F.k) := HK.out.1.cell rfl
    have v4 : W9.cell? ⟨w.heap.size, 4, none⟩ = some (.int .i64 F.r) := HK.out.1.cell rfl
    refine bodyPost_ret (v := .tuple #[.agg #[(.int .i64 m), (.int .i64 F.id), (Tx F.c), (.int .i64 F.k), (.int .i64 F.r)], .int .i64 0]) (by simp [results, Try.results14, go_sem, v0, v1, v2, v3, v4]; try rfl) rfl ?_
    refine ⟨by rw [HA.out, if_neg (fun h => h rfl)]; try rfl, Stay.toBelow (F := fun k => w.heap.size ≤ k) (H7.out.2.andThen HK.out.2 (fun i hi e => by omega)) (fun k hk h => by omega) (Nat.le_refl _)⟩
  · go_wp2_with (go_at_call 27; refine (HE.out _ r H6.out.rd).mono ?_; rintro e w7 ⟨rfl, s7⟩; have k7 := H6.out.res.stay s7 (fun e => by have := H6.out.lr; omega); have g7 := HC.stay H6.out.req s7 (fun e => by have := H6.out.lo; have := H6.out.lg; omega); have t7 := H6.out.old.andThen s7 (fun i hi e => by have := H6.out.lr; omega); have q0 : w7.cell? ⟨w.heap.size, 0, none⟩ = some (.int .i64 0) := k7.cell rfl; have z0 := k7.free 0; have q1 : w7.cell? ⟨w.heap.size, 1, none⟩ = some (.int .i64 0) := k7.cell rfl; have z1 := k7.free 1; have q2 : w7.cell? ⟨w.heap.size, 2, none⟩ = some (.string ⟨#[]⟩) := k7.cell rfl; have z2 := k7.free 2; have q3 : w7.cell? ⟨w.heap.size, 3, none⟩ = some (.int .i64 0) := k7.cell rfl; have z3 := k7.free 3; have q4 : w7.cell? ⟨w.heap.size, 4, none⟩ = some (.int .i64 0) := k7.cell rfl; have z4 := k7.free 4; have y0 : w7.cell? ⟨g, 0, none⟩ = some (.int .i64 m) := g7.cell rfl; have y1 : w7.cell? ⟨g, 1, none⟩ = some (.int .i64 F.id) := g7.cell rfl; have y2 : w7.cell? ⟨g, 2, none⟩ = some (Tx F.c) := g7.cell rfl; have y3 : w7.cell? ⟨g, 3, none⟩ = some (.int .i64 F.k) := g7.cell rfl; have y4 : w7.cell? ⟨g, 4, none⟩ = some (.int .i64 F.r) := g7.cell rfl; have hgl : w.heap.size < g := (by have := H6.out.lr; have := H6.out.lo; have := H6.out.lg; omega); have H7 := Hid.mk (And.intro k7 t7); clear k7 g7 t7 s7)
    obtain ⟨K9, S9⟩ := put5 H7.out.1 (.int .i64 0) (.int .i64 0) (.string ⟨#[]⟩) (.int .i64 0) (.int .i64 0)
    have HK := Hid.mk (And.intro K9 S9)
    clear K9 S9
    obtain ⟨W9, hW9⟩ : ∃ W9, W9 = (((((w7.setCell ⟨w.heap.size, 0, none⟩ (.int .i64 0)).setCell ⟨w.heap.size, 1, none⟩ (.int .i64 0)).setCell ⟨w.heap.size, 2, none⟩ (.string ⟨#[]⟩)).setCell ⟨w.heap.size, 3, none⟩ (.int .i64 0)).setCell ⟨w.heap.size, 4, none⟩ (.int .i64 0)) := ⟨_, rfl⟩
    rw [← hW9] at HK ⊢
    have v0 : W9.cell? ⟨w.heap.size, 0, none⟩ = some (.int .i64 0) := HK.out.1.cell rfl
    have v1 : W9.cell? ⟨w.heap.size, 1, none⟩ = some (.int .i64 0) := HK.out.1.cell rfl
    have v2 : W9.cell? ⟨w.heap.size, 2, none⟩ = some (.string ⟨#[]⟩) := HK.out.1.cell rfl
    have v3 : W9.cell? ⟨w.heap.size, 3, none⟩ = some (.int .i64 0) := HK.out.1.cell rfl
    have v4 : W9.cell? ⟨w.heap.size, 4, none⟩ = some (.int .i64 0) := HK.out.1.cell rfl
    refine bodyPost_ret (v := .tuple #[.agg #[(.int .i64 0), (.int .i64 0), (.string ⟨#[]⟩), (.int .i64 0), (.int .i64 0)], .int .i64 x]) (by simp [results, Try.results14, go_sem, v0, v1, v2, v3, v4]; try rfl) rfl ?_
    refine ⟨by rw [HA.out, if_pos hx0]; try rfl, Stay.toBelow (F := fun k => w.heap.size ≤ k) (H7.out.2.andThen HK.out.2 (fun i hi e => by omega)) (fun k hk h => by omega) (Nat.le_refl _)⟩
theorem asked_any (b : ByteArray) (w : World) (hb : b.size < 4611686018427387904) :
    Calls Try.prog 14 #[.string b] w fun e w' => e = .returned (.tuple #[.agg (rqC (askedA b).1 (askedA b).2.1), .int .i64 (askedA b).2.2]) ∧ Below w.heap.size w w' := by
  by_cases hx : (hdX 81 b).1 = 0
  · exact asked_ok b w hb hx
  · have e : askedA b = (0, zFs, (hdX 81 b).1) := by unfold askedA; rw [if_pos hx]
    rw [e]
    exact asked_no b w hb hx
end Go.Proofs.Ytjdknijjkjmafaa
