/-
  DERIVED. WireTell's walk.
-/
import Derived.Test.YtnkepggldlobjaaWTl0
set_option linter.unusedVariables false
set_option linter.unusedSimpArgs false
namespace Go.Proofs.Ytnkepggldlobjaa
open Go.RowKit Go.Proofs.SealMath
set_option maxHeartbeats 8000000 in
set_option maxRecDepth 100000 in
theorem law_tell (op : Int) (r : Rp) (L : List Ht) (a : Option Addr) (cap : Nat) (w : World) (hrn : r.n ≤ 9223372036854775807) (hHW : HtsW L) (hl : (L.length + 1) * 32 ≤ 140737488355328) (hL : HsAt w a L) :
    Calls Try.prog 5 #[.int .i64 op, .agg (rpC r (.slice a L.length cap))] w fun e w' => e = .returned (.bool true) ∧ Below w.heap.size w w' := by
  have b0 : Below w.heap.size w (w.alloc (.cells (rpC r (.slice a L.length cap)) 37)) := (Below.refl _ w).alloc (Nat.le_refl _) _
  have k0 := HC.new w (rpC r (.slice a L.length cap)) 37
  obtain ⟨V0, hV0⟩ : ∃ V0, V0 = w.alloc (.cells (rpC r (.slice a L.length cap)) 37) := ⟨_, rfl⟩
  rw [← hV0] at b0 k0
  obtain ⟨v1, w1, hap1, r1, b1, o1⟩ := hit_copy V0 L a cap (hL.below b0) (by omega)
  obtain ⟨a1, c1, hv1, -⟩ := slice_form r1
  obtain ⟨v2, w2, hap2, r2, st2, o2⟩ := hit_app1 w1 L v1 r1 ⟨-9, 0, ⟨#[]⟩⟩ hl
  obtain ⟨g, c2, hv2, m0, -, -⟩ := r2.cells L.length (by simp)
  rw [List.getElem_append_right (Nat.le_refl _)] at m0
  have hcap : L.length + 1 ≤ c2 := by obtain ⟨a', c', e, hc⟩ := slice_form r2; rw [hv2] at e; injection e with _ _ e; subst e; simpa using hc
  subst hv2
  have b2 : Below w.heap.size w w2 := (chain b0 b1 (Nat.le_refl _)).trans (Stay.toBelow st2 (fun k hk e => by have := o1 k e; have := b0.size; omega) (chain b0 b1 (Nat.le_refl _)).size)
  have hg : w.heap.size ≤ g := (o2 g rfl).elim (fun e => Nat.le_trans b0.size (o1 g e)) (fun e => Nat.le_trans (chain b0 b1 (Nat.le_refl _)).size e)
  have k2 : HC w2 w.heap.size (rpC r (.slice a L.length cap)) 37 := HC.stay (HC.below k0 b1) st2 (fun e => by have := o1 _ e; have := HC.lt k0; omega)
  have hb3 : Below w2.heap.size w2 (w2.alloc (.cells (rpC r (.slice (some ⟨g, 0, none⟩) L.length c2)) 37)) := (Below.refl _ w2).alloc (Nat.le_refl _) _
  have TI3 : TI w (w2.alloc (.cells (rpC r (.slice (some ⟨g, 0, none⟩) L.length c2)) 37)) w.heap.size w2.heap.size g L.length c2 r (.slice a L.length cap) (.slice none 0 0) (L ++ [⟨-9, 0, ⟨#[]⟩⟩]) [] :=
    ⟨HC.below k2 hb3, HC.new w2 _ _, HRow.stay (F := fun _ => False) (by simpa using r2) (.below hb3) (fun _ _ h => h), ⟨rfl, .inl ⟨rfl, rfl⟩⟩, fun e => (by cases e), chain b2 hb3 (Nat.le_refl _), Nat.le_refl _, hg, fun k hk => (by cases hk), fun e => by have := HC.lt k2; omega⟩
  obtain ⟨V3, hV3⟩ : ∃ V3, V3 = w2.alloc (.cells (rpC r (.slice (some ⟨g, 0, none⟩) L.length c2)) 37) := ⟨_, rfl⟩
  rw [← hV3] at TI3
  have hT1 := tell_any op r L (some ⟨g, 0, none⟩) c2 hrn hHW (by omega) V3 (TI3.first _ rfl)
  have hT2 := fun W (h : HsAt W a L) => rtell_any op r L a cap hrn hHW (by omega) W h
  have hS := fun W (h1 : HsAt W (some ⟨g, 0, none⟩) L) (h2 : HsAt W a L) => sameHits_big L (some ⟨g, 0, none⟩) a c2 cap W h1 h2 (by omega)
  have hT3 := fun W (h : HsAt W (some ⟨g, 0, none⟩) (zs L.length)) => tell_any op r (zs L.length) (some ⟨g, 0, none⟩) c2 hrn (zs_w _ (by omega)) (by rw [zs_len]; omega) W h
  have hT4 := fun W av cv (h : HsAt W av (zs L.length)) => rtell_any op r (zs L.length) av cv hrn (zs_w _ (by omega)) (by rw [zs_len]; omega) W h
  have hS2 := fun W av cv (h1 : HsAt W (some ⟨g, 0, none⟩) (zs L.length)) (h2 : HsAt W av (zs L.length)) => sameHits_big (zs L.length) (some ⟨g, 0, none⟩) av c2 cv W h1 h2 (by rw [zs_len]; omega)
  simp only [zs_len] at hT3 hT4 hS2
  obtain ⟨S1, hS1⟩ : ∃ S1 : ByteArray, S1 = ⟨(tellA op r L).1.toArray⟩ := ⟨_, rfl⟩
  obtain ⟨E1, hE1⟩ : ∃ E1, E1 = (tellA op r L).2 := ⟨_, rfl⟩
  obtain ⟨S2, hS2e⟩ : ∃ S2 : ByteArray, S2 = ⟨(tellA op r (zs L.length)).1.toArray⟩ := ⟨_, rfl⟩
  obtain ⟨E2, hE2⟩ : ∃ E2, E2 = (tellA op r (zs L.length)).2 := ⟨_, rfl⟩
  simp only [← hS1, ← hE1] at hT1 hT2
  simp only [← hS2e, ← hE2] at hT3 hT4
  subst hv1
  obtain ⟨n, hn⟩ : ∃ n, L.length = n := ⟨_, rfl⟩
  simp only [List.length_append, List.length_cons, List.length_nil, Nat.zero_add] at hap2
  rw [hn] at hap1 hap2 k0 k2 TI3 hT1 hcap hV0 hV3 hl ⊢
  simp only [hn] at hT2 hS hT3 hT4 hS2
  obtain ⟨re, rn, rt⟩ := r
  simp only [rpC] at hT1 hT2 hT3 hT4 hV0 hV3 k0 k2
  have HTI := Hid.mk TI3
  have HLL := Hid.mk hL
  have HT2 := Hid.mk hT2
  have HS := Hid.mk hS
  have HT3 := Hid.mk hT3
  have HT4 := Hid.mk hT4
  have HS2 := Hid.mk hS2
  have HN := Hid.mk hn
  have hn47 : n < 4398046511104 := by omega
  have hnc : (n : Int) ≤ (c2 : Int) := by omega
  have hnc1 : (n : Int) ≤ (n + 1 : Nat) := by omega
  have c03 : V0.cell? ⟨w.heap.size, 3, none⟩ = some (.slice a n cap) := k0.cell rfl
  obtain ⟨d0, d1, d2, d3⟩ : w2.cell? ⟨w.heap.size, 0, none⟩ = some (.int .i64 re) ∧ w2.cell? ⟨w.heap.size, 1, none⟩ = some (.int .i64 rn) ∧ w2.cell? ⟨w.heap.size, 2, none⟩ = some (.string rt) ∧ w2.cell? ⟨w.heap.size, 3, none⟩ = some (.slice a n cap) := ⟨k2.cell rfl, k2.cell rfl, k2.cell rfl, k2.cell rfl⟩
  obtain ⟨e0, e1, e2, e3⟩ : V3.cell? ⟨w2.heap.size, 0, none⟩ = some (.int .i64 re) ∧ V3.cell? ⟨w2.heap.size, 1, none⟩ = some (.int .i64 rn) ∧ V3.cell? ⟨w2.heap.size, 2, none⟩ = some (.string rt) ∧ V3.cell? ⟨w2.heap.size, 3, none⟩ = some (.slice (some ⟨g, 0, none⟩) n c2) := ⟨HTI.out.pbx.cell rfl, HTI.out.pbx.cell rfl, HTI.out.pbx.cell rfl, HTI.out.pbx.cell rfl⟩
  have hnn1 : (n : Int) < (n : Int) + 1 := by omega
  have hV0' := hV0.symm
  have hV3' := hV3.symm
  clear hV0 hV3 hS1 hE1 hS2e hE2 hL TI3 hT2 hS hT3 hT4 hS2 r1 r2 b1 b2 o1 o2 st2 k0 k2 hb3 b0 hHW hl hrn m0 hn
  go_enter Try.func5, Try.ntmps5
  go_wp2_with (first
    | (at_builtin; (try rw [hV0']); refine wpList_append_eq rfl _ _ 35 35 rfl _ _ _ _ rfl rfl hap1 ?_; clear hap1)
    | (at_builtin; refine wpList_append_eq rfl _ _ 35 35 rfl _ _ _ _ rfl rfl hap2 ?_; clear hap2)
    | (go_at_call 13; (try rw [hV3']); refine hT1.mono ?_; clear hT1; rintro e w4 ⟨rfl, b4⟩; replace HTI := Hid.mk (HTI.out.below b4); obtain ⟨x0, x1, x2, x3⟩ : w4.cell? ⟨w.heap.size, 0, none⟩ = some (.int .i64 re) ∧ w4.cell? ⟨w.heap.size, 1, none⟩ = some (.int .i64 rn) ∧ w4.cell? ⟨w.heap.size, 2, none⟩ = some (.string rt) ∧ w4.cell? ⟨w.heap.size, 3, none⟩ = some (.slice a n cap) := ⟨HTI.out.rbx.cell rfl, HTI.out.rbx.cell rfl, HTI.out.rbx.cell rfl, HTI.out.rbx.cell rfl⟩; clear b4)
    | (go_at_call 14; refine (HT2.out _ (HLL.out.below HTI.out.old)).mono ?_; clear HT2; rintro e w5 ⟨rfl, b5⟩; replace HTI := Hid.mk (HTI.out.below b5); clear b5 x0 x1 x2 x3)
    | fail)
  have s3 : w5.cell? ⟨w.heap.size, 3, none⟩ = some (.slice a n cap) := HTI.out.rbx.cell rfl
  have m0 : w5.cell? ⟨g, n * 3, none⟩ = some (.int .i64 (-9)) := by have := HTI.out.mark _ rfl; rw [HN.out] at this; exact this
  refine wp_region_held_drew (S := fun w' => w'.cell? ⟨w.heap.size, 3, none⟩ = some (.slice a n cap) ∧ w'.cell? ⟨g, n * 3, none⟩ = some (.int .i64 (-9))) (by kernel_rfl) ?_ (fun hHeld => ?_)
  · exact ⟨s3, m0⟩
  refine wpAnyH_take (i := 0) (oi := { dst := some 46, op := Op.move (Operand.tmp 8), type := 9, pos := "law.go:53", after := #[], guard := none }) (v := ?vq0) rfl (by kernel_rfl) (by kernel_rfl) (by kernel_rfl) (fun _ _ _ h => h) (Or.inl ⟨by rfl, ?hq0⟩) (by assumption) ?rq0
  case hq0 => (intro w0 hSw; (try dsimp only at hSw); go_simp; try (with_reducible rfl))
  simp only [Act.put, List.setIfInBounds_toArray, List.set_cons_zero, List.set_cons_succ]
  refine wpAnyH_take (i := 1) (oi := { dst := some 47, op := Op.move (Operand.tmp 10), type := 9, pos := "law.go:53", after := #[], guard := none }) (v := ?vq1) rfl (by kernel_rfl) (by kernel_rfl) (by kernel_rfl) (fun _ _ _ h => h) (Or.inl ⟨by rfl, ?hq1⟩) (by assumption) ?rq1
  case hq1 => (intro w0 hSw; (try dsimp only at hSw); go_simp; try (with_reducible rfl))
  simp only [Act.put, List.setIfInBounds_toArray, List.set_cons_zero, List.set_cons_succ]
  refine wpAnyH_take (i := 2) (oi := { dst := some 48, op := Op.binOp BinOp.neq 9 (Operand.tmp 46) (Operand.tmp 47) 9, type := 4, pos := "law.go:53", after := #[{ on := 0, ground := Ground.data }, { on := 1, ground := Ground.data }], guard := none }) (v := ?vq2) rfl (by kernel_rfl) (by kernel_rfl) (by kernel_rfl) (fun _ _ _ h => h) (Or.inl ⟨by rfl, ?hq2⟩) (by assumption) ?rq2
  case hq2 => (intro w0 hSw; (try dsimp only at hSw); go_simp; try (with_reducible rfl))
  simp only [Act.put, List.setIfInBounds_toArray, List.set_cons_zero, List.set_cons_succ]
  refine wpAnyH_take (i := 3) (oi := { dst := some 49, op := Op.move (Operand.tmp 48), type := 4, pos := "law.go:53", after := #[{ on := 2, ground := Ground.data }], guard := none }) (v := ?vq3) rfl (by kernel_rfl) (by kernel_rfl) (by kernel_rfl) (fun _ _ _ h => h) (Or.inl ⟨by rfl, ?hq3⟩) (by assumption) ?rq3
  case hq3 => (intro w0 hSw; (try dsimp only at hSw); go_simp; try (with_reducible rfl))
  simp only [Act.put, List.setIfInBounds_toArray, List.set_cons_zero, List.set_cons_succ]
  refine wpAnyH_take (i := 4) (oi := { dst := some 50, op := Op.move (Operand.tmp 9), type := 24, pos := "law.go:53", after := #[{ on := 3, ground := Ground.guard }], guard := some (3, false) }) (v := ?vq4) rfl (by kernel_rfl) (by kernel_rfl) (by kernel_rfl) (fun _ _ _ h => h) (Or.inl ⟨by rfl, ?hq4⟩) (by assumption) ?rq4
  case hq4 => (intro w0 hSw; (try dsimp only at hSw); go_simp; try (with_reducible rfl))
  simp only [Act.put, List.setIfInBounds_toArray, List.set_cons_zero, List.set_cons_succ]
  refine wpAnyH_take (i := 5) (oi := { dst := some 51, op := Op.move (Operand.tmp 11), type := 3, pos := "law.go:53", after := #[{ on := 3, ground := Ground.guard }], guard := some (3, false) }) (v := ?vq5) rfl (by kernel_rfl) (by kernel_rfl) (by kernel_rfl) (fun _ _ _ h => h) (Or.inl ⟨by rfl, ?hq5⟩) (by assumption) ?rq5
  case hq5 => (intro w0 hSw; (try dsimp only at hSw); go_simp; try (with_reducible rfl))
  simp only [Act.put, List.setIfInBounds_toArray, List.set_cons_zero, List.set_cons_succ]
  refine wpAnyH_take (i := 6) (oi := { dst := some 52, op := Op.binOp BinOp.neq 3 (Operand.tmp 50) (Operand.tmp 51) 3, type := 4, pos := "law.go:53", after := #[{ on := 4, ground := Ground.data }, { on := 5, ground := Ground.data }, { on := 3, ground := Ground.guard }], guard := some (3, false) }) (v := ?vq6) rfl (by kernel_rfl) (by kernel_rfl) (by kernel_rfl) (fun _ _ _ h => h) (Or.inl ⟨by rfl, ?hq6⟩) (by assumption) ?rq6
  case hq6 => (intro w0 hSw; (try dsimp only at hSw); go_simp; try (with_reducible rfl))
  simp only [Act.put, List.setIfInBounds_toArray, List.set_cons_zero, List.set_cons_succ]
  refine wpAnyH_take (i := 7) (oi := { dst := some 53, op := Op.pick (Operand.tmp 49) (Operand.const (Value.bool true)) (Operand.tmp 52), type := 4, pos := "law.go:53", after := #[{ on := 3, ground := Ground.data }, { on := 6, ground := Ground.data }], guard := none }) (v := ?vq7) rfl (by kernel_rfl) (by kernel_rfl) (by kernel_rfl) (fun _ _ _ h => h) (Or.inl ⟨by rfl, ?hq7⟩) (by assumption) ?rq7
  case hq7 => (intro w0 hSw; (try dsimp only at hSw); go_simp; try (with_reducible rfl))
  simp only [Act.put, List.setIfInBounds_toArray, List.set_cons_zero, List.set_cons_succ]
  refine wpAnyH_take (i := 8) (oi := { dst := some 54, op := Op.move (Operand.tmp 53), type := 4, pos := "law.go:53", after := #[{ on := 7, ground := Ground.data }, { on := 3, ground := Ground.chain }], guard := none }) (v := ?vq8) rfl (by kernel_rfl) (by kernel_rfl) (by kernel_rfl) (fun _ _ _ h => h) (Or.inl ⟨by rfl, ?hq8⟩) (by assumption) ?rq8
  case hq8 => (intro w0 hSw; (try dsimp only at hSw); go_simp; try (with_reducible rfl))
  simp only [Act.put, List.setIfInBounds_toArray, List.set_cons_zero, List.set_cons_succ]
  refine wpAnyH_take (i := 9) (oi := { dst := some 55, op := Op.move (Operand.tmp 5), type := 35, pos := "law.go:53", after := #[{ on := 8, ground := Ground.guard }], guard := some (8, false) }) (v := ?vq9) rfl (by kernel_rfl) (by kernel_rfl) (by kernel_rfl) (fun _ _ _ h => h) (Or.inl ⟨by rfl, ?hq9⟩) (by assumption) ?rq9
  case hq9 => (intro w0 hSw; (try dsimp only at hSw); go_simp; try (with_reducible rfl))
  simp only [Act.put, List.setIfInBounds_toArray, List.set_cons_zero, List.set_cons_succ]
  refine wpAnyH_take (i := 10) (oi := { dst := some 56, op := Op.move (Operand.tmp 6), type := 3, pos := "law.go:53", after := #[{ on := 8, ground := Ground.guard }], guard := some (8, false) }) (v := ?vq10) rfl (by kernel_rfl) (by kernel_rfl) (by kernel_rfl) (fun _ _ _ h => h) (Or.inl ⟨by rfl, ?hq10⟩) (by assumption) ?rq10
  case hq10 => (intro w0 hSw; (try dsimp only at hSw); go_simp; try (with_reducible rfl))
  simp only [Act.put, List.setIfInBounds_toArray, List.set_cons_zero, List.set_cons_succ]
  refine wpAnyH_take (i := 11) (oi := { dst := some 57, op := Op.slice 35 (Operand.tmp 55) none (some (Operand.tmp 56)) none, type := 35, pos := "law.go:53", after := #[{ on := 9, ground := Ground.data }, { on := 10, ground := Ground.data }, { on := 8, ground := Ground.guard }], guard := some (8, false) }) (v := ?vq11) rfl (by kernel_rfl) (by kernel_rfl) (by kernel_rfl) (fun _ _ _ h => h) (Or.inl ⟨by rfl, ?hq11⟩) (by assumption) ?rq11
  case hq11 => (intro w0 hSw; (try dsimp only at hSw); go_simp; try (with_reducible rfl))
  simp only [Act.put, List.setIfInBounds_toArray, List.set_cons_zero, List.set_cons_succ]
  refine wpAnyH_take (i := 12) (oi := { dst := some 58, op := Op.fieldAddr 37 (Operand.tmp 3) 3, type := 0, pos := "law.go:53", after := #[{ on := 8, ground := Ground.guard }], guard := some (8, false) }) (v := ?vq12) rfl (by kernel_rfl) (by kernel_rfl) (by kernel_rfl) (fun _ _ _ h => h) (Or.inl ⟨by rfl, ?hq12⟩) (by assumption) ?rq12
  case hq12 => (intro w0 hSw; (try dsimp only at hSw); go_simp; try (with_reducible rfl))
  simp only [Act.put, List.setIfInBounds_toArray, List.set_cons_zero, List.set_cons_succ]
  refine wpAnyH_take (i := 13) (oi := { dst := some 59, op := Op.load 35 (Operand.tmp 58), type := 35, pos := "law.go:53", after := #[{ on := 12, ground := Ground.data }, { on := 8, ground := Ground.guard }], guard := some (8, false) }) (v := ?vq13) rfl (by kernel_rfl) (by kernel_rfl) (by kernel_rfl) (fun _ _ _ h => h) (Or.inl ⟨by rfl, ?hq13⟩) (by assumption) ?rq13
  case hq13 => (intro w0 hSw; (try dsimp only at hSw); go_simp; try (with_reducible rfl))
  simp only [Act.put, List.setIfInBounds_toArray, List.set_cons_zero, List.set_cons_succ]
  refine wpAnyH_ready (rs := [14]) (by kernel_rfl) (by simp) ?_
  refine AllReadyH.cons rfl (fun K hK => ?_) AllReadyH.nil
  go_simp
  go_wp2_with (go_at_call 15; have HTd := Hid.mk (HTI.out.drew (W' := w5.drew) ⟨1, rfl⟩); refine (HS.out w5.drew (HTd.out.first _ rfl) (HLL.out.below HTd.out.old)).mono ?_; rintro e w6 ⟨rfl, dd6⟩; have d6 : Drew w5 w6 := Drew.trans ⟨1, rfl⟩ dd6; replace HTI := Hid.mk (HTI.out.drew d6); have s4 : w6.cell? ⟨w.heap.size, 3, none⟩ = some (.slice a n cap) := HTI.out.rbx.cell rfl; have m4 : w6.cell? ⟨g, n * 3, none⟩ = some (.int .i64 (-9)) := (by have := HTI.out.mark _ rfl; rw [HN.out] at this; exact this); clear d6 dd6)
  refine hK.out _ _ ?_ (fun hHeld => ?_)
  · exact ⟨s4, m4⟩
  clear hK K
  refine wpAnyH_take (i := 15) (oi := { dst := some 61, op := Op.unOp UnOp.not 4 (Operand.tmp 60), type := 4, pos := "law.go:53", after := #[{ on := 14, ground := Ground.data }, { on := 8, ground := Ground.guard }], guard := some (8, false) }) (v := ?vq15) rfl (by kernel_rfl) (by kernel_rfl) (by kernel_rfl) (fun _ _ _ h => h) (Or.inl ⟨by rfl, ?hq15⟩) (by assumption) ?rq15
  case hq15 => (intro w0 hSw; (try dsimp only at hSw); go_simp; try (with_reducible rfl))
  simp only [Act.put, List.setIfInBounds_toArray, List.set_cons_zero, List.set_cons_succ]
  refine wpAnyH_take (i := 16) (oi := { dst := some 62, op := Op.pick (Operand.tmp 54) (Operand.const (Value.bool true)) (Operand.tmp 61), type := 4, pos := "law.go:53", after := #[{ on := 8, ground := Ground.data }, { on := 15, ground := Ground.data }], guard := none }) (v := ?vq16) rfl (by kernel_rfl) (by kernel_rfl) (by kernel_rfl) (fun _ _ _ h => h) (Or.inl ⟨by rfl, ?hq16⟩) (by assumption) ?rq16
  case hq16 => (intro w0 hSw; (try dsimp only at hSw); go_simp; try (with_reducible rfl))
  simp only [Act.put, List.setIfInBounds_toArray, List.set_cons_zero, List.set_cons_succ]
  refine wpAnyH_take (i := 17) (oi := { dst := some 63, op := Op.move (Operand.tmp 62), type := 4, pos := "law.go:53", after := #[{ on := 16, ground := Ground.data }, { on := 14, ground := Ground.chain }], guard := none }) (v := ?vq17) rfl (by kernel_rfl) (by kernel_rfl) (by kernel_rfl) (fun _ _ _ h => h) (Or.inl ⟨by rfl, ?hq17⟩) (by assumption) ?rq17
  case hq17 => (intro w0 hSw; (try dsimp only at hSw); go_simp; try (with_reducible rfl))
  simp only [Act.put, List.setIfInBounds_toArray, List.set_cons_zero, List.set_cons_succ]
  refine wpAnyH_take (i := 18) (oi := { dst := some 64, op := Op.move (Operand.tmp 5), type := 35, pos := "law.go:53", after := #[{ on := 17, ground := Ground.guard }], guard := some (17, false) }) (v := ?vq18) rfl (by kernel_rfl) (by kernel_rfl) (by kernel_rfl) (fun _ _ _ h => h) (Or.inl ⟨by rfl, ?hq18⟩) (by assumption) ?rq18
  case hq18 => (intro w0 hSw; (try dsimp only at hSw); go_simp; try (with_reducible rfl))
  simp only [Act.put, List.setIfInBounds_toArray, List.set_cons_zero, List.set_cons_succ]
  refine wpAnyH_take (i := 19) (oi := { dst := some 65, op := Op.move (Operand.tmp 6), type := 3, pos := "law.go:53", after := #[{ on := 17, ground := Ground.guard }], guard := some (17, false) }) (v := ?vq19) rfl (by kernel_rfl) (by kernel_rfl) (by kernel_rfl) (fun _ _ _ h => h) (Or.inl ⟨by rfl, ?hq19⟩) (by assumption) ?rq19
  case hq19 => (intro w0 hSw; (try dsimp only at hSw); go_simp; try (with_reducible rfl))
  simp only [Act.put, List.setIfInBounds_toArray, List.set_cons_zero, List.set_cons_succ]
  refine wpAnyH_take (i := 20) (oi := { dst := some 66, op := Op.indexAddr 35 (Operand.tmp 64) (Operand.tmp 65), type := 0, pos := "law.go:53", after := #[{ on := 18, ground := Ground.data }, { on := 19, ground := Ground.data }, { on := 17, ground := Ground.guard }], guard := some (17, false) }) (v := ?vq20) rfl (by kernel_rfl) (by kernel_rfl) (by kernel_rfl) (fun _ _ _ h => h) (Or.inl ⟨by rfl, ?hq20⟩) (by assumption) ?rq20
  case hq20 => (intro w0 hSw; (try dsimp only at hSw); go_simp; try (with_reducible rfl))
  simp only [Act.put, List.setIfInBounds_toArray, List.set_cons_zero, List.set_cons_succ]
  refine wpAnyH_take (i := 21) (oi := { dst := some 67, op := Op.fieldAddr 39 (Operand.tmp 66) 0, type := 0, pos := "law.go:53", after := #[{ on := 20, ground := Ground.data }, { on := 17, ground := Ground.guard }], guard := some (17, false) }) (v := ?vq21) rfl (by kernel_rfl) (by kernel_rfl) (by kernel_rfl) (fun _ _ _ h => h) (Or.inl ⟨by rfl, ?hq21⟩) (by assumption) ?rq21
  case hq21 => (intro w0 hSw; (try dsimp only at hSw); go_simp; try (with_reducible rfl))
  simp only [Act.put, List.setIfInBounds_toArray, List.set_cons_zero, List.set_cons_succ]
  refine wpAnyH_take (i := 22) (oi := { dst := some 68, op := Op.load 3 (Operand.tmp 67), type := 3, pos := "law.go:53", after := #[{ on := 21, ground := Ground.data }, { on := 17, ground := Ground.guard }], guard := some (17, false) }) (v := ?vq22) rfl (by kernel_rfl) (by kernel_rfl) (by kernel_rfl) (fun _ _ _ h => h) (Or.inl ⟨by rfl, ?hq22⟩) (by assumption) ?rq22
  case hq22 => (intro w0 hSw; (try dsimp only at hSw); go_simp; try (with_reducible rfl))
  simp only [Act.put, List.setIfInBounds_toArray, List.set_cons_zero, List.set_cons_succ]
  refine wpAnyH_take (i := 23) (oi := { dst := some 69, op := Op.binOp BinOp.neq 3 (Operand.tmp 68) (Operand.const (Value.int IntKind.i64 (-9))) 3, type := 4, pos := "law.go:53", after := #[{ on := 22, ground := Ground.data }, { on := 17, ground := Ground.guard }], guard := some (17, false) }) (v := ?vq23) rfl (by kernel_rfl) (by kernel_rfl) (by kernel_rfl) (fun _ _ _ h => h) (Or.inl ⟨by rfl, ?hq23⟩) (by assumption) ?rq23
  case hq23 => (intro w0 hSw; (try dsimp only at hSw); go_simp; try (with_reducible rfl))
  simp only [Act.put, List.setIfInBounds_toArray, List.set_cons_zero, List.set_cons_succ]
  refine wpAnyH_take (i := 24) (oi := { dst := some 70, op := Op.pick (Operand.tmp 63) (Operand.const (Value.bool true)) (Operand.tmp 69), type := 4, pos := "law.go:53", after := #[{ on := 17, ground := Ground.data }, { on := 23, ground := Ground.data }], guard := none }) (v := ?vq24) rfl (by kernel_rfl) (by kernel_rfl) (by kernel_rfl) (fun _ _ _ h => h) (Or.inl ⟨by rfl, ?hq24⟩) (by assumption) ?rq24
  case hq24 => (intro w0 hSw; (try dsimp only at hSw); go_simp; try (with_reducible rfl))
  simp only [Act.put, List.setIfInBounds_toArray, List.set_cons_zero, List.set_cons_succ]
  refine wpAnyH_done (by kernel_rfl) ?_ _
  obtain ⟨Y, hY⟩ : ∃ Y, Y = L ++ [(⟨-9, 0, ⟨#[]⟩⟩ : Ht)] := ⟨_, rfl⟩
  have H0 : Hid (TI w w6 w.heap.size w2.heap.size g n c2 ⟨re, rn, rt⟩ (.slice a n cap) (.slice none 0 0) (zs 0 ++ Y.drop 0) (zs 0)) := Hid.mk (by simpa [zs, hY] using HTI.out)
  have HY : Hid (Y.length = n + 1 ∧ zs n ++ Y.drop n = zs n ++ [(⟨-9, 0, ⟨#[]⟩⟩ : Ht)]) := ⟨by rw [hY]; simp [HN.out], by rw [hY, ← HN.out, List.drop_left]⟩
  clear hY s3 m0 s4 m4 HTI HTd HS hHeld HLL
  go_wp2_with fail
  go_loopw [12, 13] (fun o u wr => ∃ (vo : Value) (i : Nat), o = vo ∧ u = .int .i64 i ∧ i ≤ n ∧ Hid (TI w wr w.heap.size w2.heap.size g n c2 ⟨re, rn, rt⟩ (.slice a n cap) vo (zs i ++ Y.drop i) (zs i))) (fun _ u _ => n - (intOf u).toNat)
  case atStart => exact ⟨_, 0, rfl, rfl, Nat.zero_le _, H0⟩
  case round =>
    obtain ⟨vo, i, hvo, rfl, hin, HI⟩ := hrel
    have hvo' := hvo.symm
    clear hvo H0
    obtain ⟨ao, co, hao, -⟩ := slice_form HI.out.oth
    rw [zs_len] at hao
    by_cases hlt : i < n
    · have hlt' : (i : Int) < (n : Int) := by omega
      have hlt2 : (i : Int) < ((n + 1 : Nat) : Int) := by omega
      have hlt3 : (i : Int) < (n : Int) + 1 := by omega
      have hXl : i < (zs i ++ Y.drop i).length := by rw [List.length_append, zs_len, List.length_drop, HY.out.1]; omega
      obtain ⟨⟨p0, p1, p2⟩, fz⟩ := HI.out.cell i hXl
      obtain ⟨q, hq⟩ : ∃ q, q = (zs i ++ Y.drop i)[i] := ⟨_, rfl⟩
      rw [← hq] at p0 p1 p2
      have f0 := fz (i * 3)
      have f1 := fz (i * 3 + 1)
      have f2 := fz (i * 3 + 2)
      have t2 := HI.out.set i hXl (zh i)
      rw [zs_set Y i (by rw [HY.out.1]; omega)] at t2
      obtain ⟨V, hV⟩ : ∃ V, V = putH wr g i (zh i) := ⟨_, rfl⟩
      rw [← hV] at t2
      have hV5 : ((wr.setCell ⟨g, i * 3, none⟩ (.int .i64 (i : Nat))).setCell ⟨g, i * 3 + 1, none⟩ (.int .i64 7)).setCell ⟨g, i * 3 + 2, none⟩ (.string ⟨#[122]⟩) = V := hV.symm
      have hzi : (zs (i + 1) ++ Y.drop (i + 1))[i]'(by rw [List.length_append, zs_len]; omega) = zh i := by
        rw [List.getElem_append_left (by rw [zs_len]; omega)]; simp [zs]
      obtain ⟨⟨q0, q1, q2⟩, -⟩ := t2.cell i (by rw [List.length_append, zs_len]; omega)
      rw [hzi] at q0 q1 q2
      simp only [zh] at q0 q1 q2
      obtain ⟨v5, w5', hap, hr5, st5, loc5⟩ := hit_app1 V (zs i) vo t2.oth (zh i) (by rw [zs_len]; omega)
      simp only [zh] at hap
      have t3 := t2.app hr5 st5 loc5
      rw [← zs_succ] at t3
      have H3 := Hid.mk t3
      rw [hao] at hap
      have hw : IntKind.i64.wrap ((i : Int) + 1) = ((i + 1 : Nat) : Int) := i64_in _ (by omega) (by omega)
      subst hvo'
      rw [hao] at *
      clear t2 t3 hr5 st5 loc5 hzi hV fz hq hXl HI hlt hao
      go_wp2_with (first
        | (at_builtin; (try rw [hV5]); refine wpList_append_eq rfl _ _ 35 35 rfl _ _ _ _ rfl rfl hap ?_; clear hap)
        | fail)
      exact ⟨⟨_, i + 1, rfl, by go_num, by omega, H3⟩, by simp only [intOf]; omega⟩
    · have hlt' : ¬ (i : Int) < (n : Int) := by omega
      have HE : Hid (i = n) := Hid.mk (by omega)
      rw [HE.out] at HI hao
      have t2 := HI.out.put vo
      have y3 : wr.cell? ⟨w.heap.size, 3, none⟩ = some (.slice a n cap) := HI.out.rbx.cell rfl
      have fz := HI.out.rbx.free 3
      obtain ⟨V, hV⟩ : ∃ V, V = wr.setCell ⟨w.heap.size, 3, none⟩ vo := ⟨_, rfl⟩
      have hV5 := hV.symm
      rw [← hV] at t2
      have u0 : V.cell? ⟨w2.heap.size, 0, none⟩ = some (.int .i64 re) := t2.pbx.cell rfl
      have u1 : V.cell? ⟨w2.heap.size, 1, none⟩ = some (.int .i64 rn) := t2.pbx.cell rfl
      have u2 : V.cell? ⟨w2.heap.size, 2, none⟩ = some (.string rt) := t2.pbx.cell rfl
      have u3 : V.cell? ⟨w2.heap.size, 3, none⟩ = some (.slice (some ⟨g, 0, none⟩) n c2) := t2.pbx.cell rfl
      have HA : Hid (∀ W vx, TI w W w.heap.size w2.heap.size g n c2 ⟨re, rn, rt⟩ vx vo (zs n ++ Y.drop n) (zs n) → HsAt W (some ⟨g, 0, none⟩) (zs n) ∧ HsAt W ao (zs n)) := fun W vx h => ⟨h.first _ HY.out.2, h.oth.at (by rw [zs_len]; exact hao)⟩
      have HI2 := Hid.mk t2
      subst hvo'
      subst hao
      clear HI t2 hV hlt hin
      go_wp2_with (first
        | (go_at_call 13; (try rw [hV5]); refine (HT3.out _ (HA.out _ _ HI2.out).1).mono ?_; clear HT3; rintro e w7 ⟨rfl, b7⟩; replace HI2 := Hid.mk (HI2.out.below b7); obtain ⟨z0, z1, z2, z3⟩ : w7.cell? ⟨w.heap.size, 0, none⟩ = some (.int .i64 re) ∧ w7.cell? ⟨w.heap.size, 1, none⟩ = some (.int .i64 rn) ∧ w7.cell? ⟨w.heap.size, 2, none⟩ = some (.string rt) ∧ w7.cell? ⟨w.heap.size, 3, none⟩ = some (.slice ao n co) := ⟨HI2.out.rbx.cell rfl, HI2.out.rbx.cell rfl, HI2.out.rbx.cell rfl, HI2.out.rbx.cell rfl⟩; clear b7)
        | (go_at_call 14; refine (HT4.out _ _ _ (HA.out _ _ HI2.out).2).mono ?_; clear HT4; rintro e w8 ⟨rfl, b8⟩; replace HI2 := Hid.mk (HI2.out.below b8); clear b8)
        | (go_at_call 15; refine (HS2.out _ _ _ (HA.out _ _ HI2.out).1 (HA.out _ _ HI2.out).2).mono ?_; clear HS2; rintro e w9 ⟨rfl, d9⟩; replace HI2 := Hid.mk (HI2.out.drew d9); clear d9)
        | fail)
      go_ret
      exact ⟨rfl, HI2.out.old⟩
end Go.Proofs.Ytnkepggldlobjaa
