/-
  DERIVED. What is not named of a request.
-/
import Derived.Test.YtjdknijjkjmafaaWReqW
import Derived.Test.YtjdknijjkjmafaaWAsked
import Derived.Test.YtjdknijjkjmafaaWEq
set_option linter.unusedVariables false
set_option linter.unusedSimpArgs false
namespace Go.Proofs.Ytjdknijjkjmafaa
open Go.RowKit Go.Proofs.SealMath
/-- Is something there that is not named? -/
def stQ (i : Nat) (q : Rq) : Bool := !rqE (clQ i q) ⟨(i + 1 : Nat), 0, eB, 0, 0⟩
theorem st_new (w : World) (m f1 f2 : Nat) (q : Rq) : HC ((w.alloc (.cells #[.int .i64 m, Fv f1 #[], Fv f2 #[]] 64)).alloc (.cells #[.int .i64 q.op, .int .i64 q.id, .string q.c, .int .i64 q.k, .int .i64 q.r] 40)) w.heap.size #[.int .i64 m, Fv f1 #[], Fv f2 #[]] 64 ∧ HC ((w.alloc (.cells #[.int .i64 m, Fv f1 #[], Fv f2 #[]] 64)).alloc (.cells #[.int .i64 q.op, .int .i64 q.id, .string q.c, .int .i64 q.k, .int .i64 q.r] 40)) (w.heap.size + 1) (rqV q) 40 ∧ Below w.heap.size w ((w.alloc (.cells #[.int .i64 m, Fv f1 #[], Fv f2 #[]] 64)).alloc (.cells #[.int .i64 q.op, .int .i64 q.id, .string q.c, .int .i64 q.k, .int .i64 q.r] 40)) := by
  refine ⟨HC.alloc (HC.new w _ _) _, ?_, ((Below.refl _ w).alloc (Nat.le_refl _) _).alloc (by simp) _⟩
  have := HC.new (w.alloc (.cells #[.int .i64 m, Fv f1 #[], Fv f2 #[]] 64)) (rqV q) 40
  have e : (w.alloc (.cells #[.int .i64 m, Fv f1 #[], Fv f2 #[]] 64)).heap.size = w.heap.size + 1 := by simp
  rw [e] at this
  exact this
set_option maxHeartbeats 4000000 in
set_option maxRecDepth 100000 in
theorem strays_any (i : Nat) (hi : i < 9) (q : Rq) (w : World) :
    Calls Try.prog 35 #[opV i, .agg (rqV q)] w fun e w' => e = .returned (.bool (stQ i q)) ∧ Below w.heap.size w w' := by
  have hcl := fun W g hW => rq_clear i hi q W g hW
  have hst : stQ i q = !rqE (clQ i q) ⟨(i + 1 : Nat), 0, eB, 0, 0⟩ := rfl
  have hneq := fun W => rq_neq (clQ i q) ⟨(i + 1 : Nat), 0, eB, 0, 0⟩ W
  obtain ⟨q', hq'⟩ : ∃ q', q' = clQ i q := ⟨_, rfl⟩
  rw [← hq'] at hcl hst hneq
  rw [← hst] at hneq
  clear hst
  have ent := rqF_ent i
  unfold Ent at ent
  obtain ⟨f1, hf1⟩ : ∃ f, f = rqF i := ⟨_, rfl⟩
  obtain ⟨f2, hf2⟩ : ∃ f, f = rpF i := ⟨_, rfl⟩
  obtain ⟨m, hm⟩ : ∃ m, m = i + 1 := ⟨_, rfl⟩
  obtain ⟨h1, h2, h3⟩ := st_new w m f1 f2 q
  simp only [opV, ← hf1, ← hf2, ← hm] at hcl hneq ent ⊢
  obtain ⟨V, hV⟩ : ∃ V, V = ((w.alloc (.cells #[.int .i64 m, Fv f1 #[], Fv f2 #[]] 64)).alloc (.cells #[.int .i64 q.op, .int .i64 q.id, .string q.c, .int .i64 q.k, .int .i64 q.r] 40)) := ⟨_, rfl⟩
  rw [← hV] at h1 h2 h3
  have hV5 : ((w.alloc (.cells #[.int .i64 m, Fv f1 #[], Fv f2 #[]] 64)).alloc (.cells #[.int .i64 q.op, .int .i64 q.id, .string q.c, .int .i64 q.k, .int .i64 q.r] 40)) = V := hV.symm
  obtain ⟨ob, hob⟩ : ∃ ob, ob = w.heap.size := ⟨_, rfl⟩
  obtain ⟨g, hg⟩ : ∃ g, g = w.heap.size + 1 := ⟨_, rfl⟩
  have hgo : ob ≠ g := by omega
  have HC' := Hid.mk hcl
  have HG := Hid.mk (And.intro hob hg)
  obtain ⟨X, hX⟩ : ∃ X, X = stQ i q := ⟨_, rfl⟩
  rw [← hX] at hneq ⊢
  clear hcl hq' hf1 hf2 hm hV hi hX
  obtain ⟨a', b', c', d', e'⟩ := q'
  simp only [rqV] at hneq
  go_enter Try.func35, Try.ntmps35
  go_wp2
  try rw [hV5]
  simp only [← hg]
  simp only [← hob]
  rw [← hob] at h1
  rw [← hg] at h2
  have c1 : V.cell? ⟨ob, 1, none⟩ = some (Fv f1 #[]) := h1.cell rfl
  have H0 := Hid.mk (And.intro h1 (And.intro h2 h3))
  clear h1 h2 h3 hob hg hV5
  refine wp_region_held_drew (S := fun w' => w'.cell? ⟨ob, 1, none⟩ = some (Fv f1 #[])) (by kernel_rfl) ?_ (fun hHeld => ?_)
  · exact c1
  refine wpAnyH_take (i := 0) (oi := { dst := some 5, op := Op.fieldAddr 64 (Operand.tmp 2) 1, type := 0, pos := "operations.go:92", after := #[], guard := none }) (v := ?vb0) rfl (by kernel_rfl) (by kernel_rfl) (by kernel_rfl) (fun _ _ _ h => h) (Or.inl ⟨by rfl, ?hb0⟩) (by assumption) ?rb0
  case hb0 => (intro w0 hSw; (try dsimp only at hSw); go_simp; try (with_reducible rfl))
  simp only [Act.put, List.setIfInBounds_toArray, List.set_cons_zero, List.set_cons_succ]
  refine wpAnyH_take (i := 1) (oi := { dst := some 6, op := Op.load 61 (Operand.tmp 5), type := 61, pos := "operations.go:92", after := #[{ on := 0, ground := Ground.data }], guard := none }) (v := ?vb1) rfl (by kernel_rfl) (by kernel_rfl) (by kernel_rfl) (fun _ _ _ h => h) (Or.inl ⟨by rfl, ?hb1⟩) (by assumption) ?rb1
  case hb1 => (intro w0 hSw; (try dsimp only at hSw); go_simp; try (with_reducible rfl))
  simp only [Act.put, List.setIfInBounds_toArray, List.set_cons_zero, List.set_cons_succ]
  refine wpAnyH_ready (rs := [2]) (by kernel_rfl) (by simp) ?_
  refine AllReadyH.cons rfl (fun K hK => ?_) AllReadyH.nil
  go_simp
  go_wp2_with (first | (go_at_call 54; refine (clH_any _).mono ?_; rintro e w5 ⟨rfl, b5⟩; have h5 := HC.below (HC.drew H0.out.1) b5; have g5 := HC.below (HC.drew H0.out.2.1) b5; clear c1; have c1 : w5.cell? ⟨ob, 1, none⟩ = some (Fv f1 #[]) := h5.cell rfl; have H5 := Hid.mk (And.intro h5 (And.intro g5 b5)); clear h5 g5 b5) | (go_at_fn f1; refine (HC'.out _ g H5.out.2.1).mono ?_; rintro e w6 ⟨rfl, g6, s6⟩; have h6 := H5.out.1.stay s6 hgo; clear c1; have c1 : w6.cell? ⟨ob, 1, none⟩ = some (Fv f1 #[]) := h6.cell rfl; have H6 := Hid.mk (And.intro h6 (And.intro g6 s6)); clear h6 g6 s6))
  refine hK.out _ _ ?_ (fun hHeld => ?_)
  · exact c1
  clear hK K
  refine wpAnyH_ready (rs := [3]) (by kernel_rfl) (by simp) ?_
  refine AllReadyH.cons rfl (fun K hK => ?_) AllReadyH.nil
  go_simp
  go_wp2_with (first | (go_at_call 54; refine (clH_any _).mono ?_; rintro e w5 ⟨rfl, b5⟩; have h5 := HC.below (HC.drew H0.out.1) b5; have g5 := HC.below (HC.drew H0.out.2.1) b5; clear c1; have c1 : w5.cell? ⟨ob, 1, none⟩ = some (Fv f1 #[]) := h5.cell rfl; have H5 := Hid.mk (And.intro h5 (And.intro g5 b5)); clear h5 g5 b5) | (go_at_fn f1; refine (HC'.out _ g H5.out.2.1).mono ?_; rintro e w6 ⟨rfl, g6, s6⟩; have h6 := H5.out.1.stay s6 hgo; clear c1; have c1 : w6.cell? ⟨ob, 1, none⟩ = some (Fv f1 #[]) := h6.cell rfl; have H6 := Hid.mk (And.intro h6 (And.intro g6 s6)); clear h6 g6 s6))
  refine hK.out _ _ ?_ (fun hHeld => ?_)
  · exact c1
  clear hK K
  refine wpAnyH_done (by kernel_rfl) ?_ _
  have o0 : w6.cell? ⟨ob, 0, none⟩ = some (.int .i64 m) := H6.out.1.cell rfl
  have y0 : w6.cell? ⟨g, 0, none⟩ = some (.int .i64 a') := H6.out.2.1.cell rfl
  have y1 : w6.cell? ⟨g, 1, none⟩ = some (.int .i64 b') := H6.out.2.1.cell rfl
  have y2 : w6.cell? ⟨g, 2, none⟩ = some (.string c') := H6.out.2.1.cell rfl
  have y3 : w6.cell? ⟨g, 3, none⟩ = some (.int .i64 d') := H6.out.2.1.cell rfl
  have y4 : w6.cell? ⟨g, 4, none⟩ = some (.int .i64 e') := H6.out.2.1.cell rfl
  go_wp2
  go_ret
  refine ⟨rfl, Stay.toBelow (F := fun k => w.heap.size ≤ k) (((Stay.below H0.out.2.2).drew.trans (.below H5.out.2.2)).andThen H6.out.2.2 (fun i hi e => by have := HG.out; omega)) (fun k hk h => by omega) (Nat.le_refl _)⟩
end Go.Proofs.Ytjdknijjkjmafaa
