/-
  DERIVED. A message is begun.
-/
import Derived.Test.YtjdknijjkjmafaaWWr
set_option linter.unusedVariables false
set_option linter.unusedSimpArgs false
namespace Go.Proofs.Ytjdknijjkjmafaa
open Go.RowKit Go.Proofs.SealMath
theorem bwr_new (w : World) (m f1 f2 : Nat) : Bd ((w.alloc (.cells #[.int .i64 m, Fv f1 #[], Fv f2 #[]] 64)).alloc (.cells #[.pointer none, .slice none 0 0] 94)) (w.heap.size + 1) (.pointer none) (.slice none 0 0) [] := by
  have := Bd.new (w.alloc (.cells #[.int .i64 m, Fv f1 #[], Fv f2 #[]] 64))
  have e : (w.alloc (.cells #[.int .i64 m, Fv f1 #[], Fv f2 #[]] 64)).heap.size = w.heap.size + 1 := by simp
  rw [e] at this
  exact this
theorem wbyte_step (x : UInt8) {w1 : World} {b : Nat} {p v1 : Value} {l1 : List UInt8} (h : Bd w1 b p v1 l1) (hb : l1.length + 1 ≤ 140737488355328) :
    Calls Try.prog 58 #[Pt b, .int .u8 x.toNat] w1 fun e w2 => e = .returned .nilIface ∧ ∃ v2, Wt w1 w2 b v1 v2 (l1 ++ [x]) :=
  wbyte_any x _ h hb _ fun v2 w2 hB s2 hloc => ⟨rfl, v2, hB, s2, hloc⟩
set_option maxHeartbeats 4000000 in
set_option maxRecDepth 100000 in
theorem begin_any (c d : UInt8) (m f1 f2 : Nat) (hm : d.toNat = m) (w : World) :
    Calls Try.prog 38 #[.int .u8 c.toNat, .agg #[.int .i64 m, Fv f1 #[], Fv f2 #[]]] w fun e w' => e = .returned (Pt (w.heap.size + 1)) ∧ ∃ v', Bd w' (w.heap.size + 1) (Pt (w.heap.size + 1)) v' [c, d] ∧ Below w.heap.size w w' ∧ ∀ k, v'.ownBlock = some k → w.heap.size + 1 < k := by
  have h0 := bwr_new w m f1 f2
  have s0 : Below w.heap.size w ((w.alloc (.cells #[.int .i64 m, Fv f1 #[], Fv f2 #[]] 64)).alloc (.cells #[.pointer none, .slice none 0 0] 94)) := ((Below.refl _ w).alloc (Nat.le_refl _) _).alloc (by simp) _
  have k0 : HC ((w.alloc (.cells #[.int .i64 m, Fv f1 #[], Fv f2 #[]] 64)).alloc (.cells #[.pointer none, .slice none 0 0] 94)) w.heap.size #[.int .i64 m, Fv f1 #[], Fv f2 #[]] 64 := HC.alloc (HC.new w _ _) _
  obtain ⟨b, hb⟩ : ∃ b, b = w.heap.size + 1 := ⟨_, rfl⟩
  obtain ⟨V, hV⟩ : ∃ V, V = ((w.alloc (.cells #[.int .i64 m, Fv f1 #[], Fv f2 #[]] 64)).alloc (.cells #[.pointer none, .slice none 0 0] 94)) := ⟨_, rfl⟩
  have hVs : V.heap.size = w.heap.size + 2 := by rw [hV]; simp
  rw [← hV, ← hb] at h0
  rw [← hV] at s0 k0
  have hb1 := wbyte_step c h0 (by simp)
  have hlt : w.heap.size < b := by omega
  have hw8 : IntKind.u8.wrap (m : Int) = (d.toNat : Int) := by rw [hm, IntKind.wrap_u8]; have := d.toNat_lt; omega
  have H0 := Hid.mk (And.intro k0 (And.intro s0 (And.intro hb hVs)))
  have HV := Hid.mk hV
  have hr2 : (w.alloc (.cells #[.int .i64 m, Fv f1 #[], Fv f2 #[]] 64)).heap.size = b := by rw [hb]; simp
  have lB := h0.lt
  rw [← hb]
  clear h0 s0 k0 hb hV hm hVs
  have hsf : ∀ (W : World) (p : Addr) (f : Fn) (x c : Array Value), (store p (.func f x c)).run Try.prog W = stored Try.prog W p (.func f x c) .plain := fun W p f x c => run_store Try.prog W p _ .plain rfl
  go_enter Try.func38, Try.ntmps38
  go_wp2_with (go_at_call 58; rw [← HV.out]; refine hb1.mono ?_; clear hb1; rintro e w1 ⟨rfl, v1, h1⟩; have H1 := Hid.mk h1; clear h1)
  have c1 : w1.cell? ⟨w.heap.size, 0, none⟩ = some (.int .i64 m) := H1.out.cell (by omega) (fun k hk => by cases hk) (H0.out.1.cell rfl)
  have hS : Calls Try.prog 58 #[Pt b, .int .u8 d.toNat] w1.drew _ := wbyte_step d (H1.out.bd.kept (F := fun _ => False) ((Stay.refl _ w1).drew) (fun h => h) (fun _ _ h => h)) (by simp)
  refine wp_region_held_drew (S := fun w' => w'.cell? ⟨w.heap.size, 0, none⟩ = some (.int .i64 m)) (by kernel_rfl) ?_ (fun hHeld => ?_)
  · exact c1
  refine wpAnyH_take (i := 0) (oi := { dst := some 13, op := Op.move (Operand.tmp 5), type := 88, pos := "writer.go:19", after := #[], guard := none }) (v := ?vn0) rfl (by kernel_rfl) (by kernel_rfl) (by kernel_rfl) (fun _ _ _ h => h) (Or.inl ⟨by rfl, ?hn0⟩) (by assumption) ?rn0
  case hn0 => (intro w0 hSw; (try dsimp only at hSw); go_simp; try (with_reducible rfl))
  simp only [Act.put, List.setIfInBounds_toArray, List.set_cons_zero, List.set_cons_succ]
  refine wpAnyH_take (i := 1) (oi := { dst := some 14, op := Op.nilCheck (Operand.tmp 13), type := 0, pos := "writer.go:19", after := #[{ on := 0, ground := Ground.data }], guard := none }) (v := ?vn1) rfl (by kernel_rfl) (by kernel_rfl) (by kernel_rfl) (fun _ _ _ h => h) (Or.inl ⟨by rfl, ?hn1⟩) (by assumption) ?rn1
  case hn1 => (intro w0 hSw; (try dsimp only at hSw); go_simp; try (with_reducible rfl))
  simp only [Act.put, List.setIfInBounds_toArray, List.set_cons_zero, List.set_cons_succ]
  refine wpAnyH_take (i := 2) (oi := { dst := some 15, op := Op.fieldAddr 94 (Operand.tmp 14) 0, type := 0, pos := "writer.go:19", after := #[{ on := 1, ground := Ground.data }], guard := none }) (v := ?vn2) rfl (by kernel_rfl) (by kernel_rfl) (by kernel_rfl) (fun _ _ _ h => h) (Or.inl ⟨by rfl, ?hn2⟩) (by assumption) ?rn2
  case hn2 => (intro w0 hSw; (try dsimp only at hSw); go_simp; try (with_reducible rfl))
  simp only [Act.put, List.setIfInBounds_toArray, List.set_cons_zero, List.set_cons_succ]
  refine wpAnyH_take (i := 3) (oi := { dst := some 16, op := Op.fieldAddr 64 (Operand.tmp 3) 0, type := 0, pos := "writer.go:19", after := #[], guard := none }) (v := ?vn3) rfl (by kernel_rfl) (by kernel_rfl) (by kernel_rfl) (fun _ _ _ h => h) (Or.inl ⟨by rfl, ?hn3⟩) (by assumption) ?rn3
  case hn3 => (intro w0 hSw; (try dsimp only at hSw); go_simp; try (with_reducible rfl))
  simp only [Act.put, List.setIfInBounds_toArray, List.set_cons_zero, List.set_cons_succ]
  refine wpAnyH_take (i := 4) (oi := { dst := some 17, op := Op.load 3 (Operand.tmp 16), type := 3, pos := "writer.go:19", after := #[{ on := 3, ground := Ground.data }], guard := none }) (v := ?vn4) rfl (by kernel_rfl) (by kernel_rfl) (by kernel_rfl) (fun _ _ _ h => h) (Or.inl ⟨by rfl, ?hn4⟩) (by assumption) ?rn4
  case hn4 => (intro w0 hSw; (try dsimp only at hSw); go_simp; try (with_reducible rfl))
  simp only [Act.put, List.setIfInBounds_toArray, List.set_cons_zero, List.set_cons_succ]
  refine wpAnyH_take (i := 5) (oi := { dst := some 18, op := Op.convert 3 5 (Operand.tmp 17), type := 5, pos := "writer.go:19", after := #[{ on := 4, ground := Ground.data }], guard := none }) (v := ?vn5) rfl (by kernel_rfl) (by kernel_rfl) (by kernel_rfl) (fun _ _ _ h => h) (Or.inl ⟨by rfl, ?hn5⟩) (by assumption) ?rn5
  case hn5 => (intro w0 hSw; (try dsimp only at hSw); go_simp; try (with_reducible rfl))
  simp only [Act.put, List.setIfInBounds_toArray, List.set_cons_zero, List.set_cons_succ]
  refine wpAnyH_ready (rs := [6]) (by kernel_rfl) (by simp) ?_
  refine AllReadyH.cons rfl (fun K hK => ?_) AllReadyH.nil
  go_simp
  go_wp2_with (go_at_call 58; refine hS.mono ?_; clear hS; rintro e w2 ⟨rfl, v2, h2⟩; have c2 := h2.cell (Nat.ne_of_lt hlt) (fun k hk => by rcases H1.out.loc k hk with e | e; cases e; have := H0.out.2.2.2; omega) (show w1.drew.cell? ⟨w.heap.size, 0, none⟩ = _ from c1); have H2 := Hid.mk h2; clear h2)
  refine hK.out _ _ ?_ (fun hHeld => ?_)
  · exact c2
  clear hK K
  refine wpAnyH_done (by kernel_rfl) ?_ _
  go_wp2
  go_ret
  have h2 : Wt w1 w2 b v1 v2 _ := ⟨H2.out.bd, (Stay.refl _ w1).drew.trans H2.out.st, H2.out.loc⟩
  have hT := Wt.trans H1.out h2 lB
  refine ⟨rfl, v2, hT.bd, ?_, fun k hk => ?_⟩
  · exact Stay.toBelow (F := fun k => w.heap.size ≤ k) ((Stay.below H0.out.2.1).andThen hT.st (fun i hi e => by rcases e with e | e; omega; cases e)) (fun k hk h => by omega) (Nat.le_refl _)
  · rcases hT.loc k hk with e | e
    · cases e
    · have := H0.out.2.2; omega
end Go.Proofs.Ytjdknijjkjmafaa
