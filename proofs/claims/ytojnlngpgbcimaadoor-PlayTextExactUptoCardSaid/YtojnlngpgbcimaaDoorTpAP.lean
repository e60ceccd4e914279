/-
  DERIVED. PlRLine, as one text.
-/
import Derived.Test.YtojnlngpgbcimaaDoorTpAN
import Derived.Test.YtojnlngpgbcimaaDoorTpAO
set_option linter.unusedVariables false
set_option linter.unusedSimpArgs false
namespace Go.Proofs.YtojnlngpgbcimaaDoor
open Go.RowKit
theorem shL_one : ∀ p ∈ shL, p.k = 1 → p.n = 3 ∧ p.t = 0 ∧ p.o = false := by decide
theorem b_d (w : World) : Below w.heap.size w w.drew := (Below.refl _ w).drew
theorem Pow.drew' {w W : World} (h : Pow w) (b : Below w.drew.heap.size w.drew W) : Pow W := h.lat' (below_d b)
set_option maxHeartbeats 16000000 in
set_option maxRecDepth 100000 in
theorem line_any {w : World} (f : Sh) (hf : f ∈ shL) (m : Mt) (hk : f.k = m.s.k) (hm : MtAt w m) (hI : StI m.s) (hP : Pow w) (hs : m.s.S.length ≤ 1048576) (hb : bytesS m.s.S ≤ 1048576) :
    Calls Tryd.prog 21 #[stV m] w fun e w' => e = .returned (.string ⟨(lineF f m.s).toArray⟩) ∧ Below w.heap.size w w' := by
  have hwf := shL_wf f hf
  have hone := shL_one f hf
  have hpre := pre_len hf hI
  obtain ⟨⟨sk, sN, sS, sa, sb, sc⟩, la, ca, lb, cb⟩ := m
  have hrow := fun V => row_any f hf V
  rw [hk] at hrow
  obtain ⟨fk, fw, fn, ft, fo⟩ := f
  dsimp only at hk hwf hone hm hs hb hrow
  subst hk
  obtain ⟨R, hR⟩ : ∃ R : ByteArray, R = ⟨(lineF ⟨fk, fw, fn, ft, fo⟩ ⟨fk, sN, sS, sa, sb, sc⟩).toArray⟩ := ⟨_, rfl⟩
  dsimp only
  rw [← hR]
  have hRl : R.data.toList = lineF ⟨fk, fw, fn, ft, fo⟩ ⟨fk, sN, sS, sa, sb, sc⟩ := by rw [hR]
  have HR := Hid.mk hRl
  have hAm := fun (V : World) (b : Below w.heap.size w V) => hm.below b
  have HAm := Hid.mk hAm
  have HI := Hid.mk hI
  have HPw := Hid.mk (fun (V : World) (b : Below w.heap.size w V) => hP.lat' b)
  obtain ⟨M, hM⟩ : ∃ M, M = sS.length := ⟨_, rfl⟩
  obtain ⟨Q, hQ⟩ : ∃ Q, Q = sN.length := ⟨_, rfl⟩
  have HMQ := Hid.mk (And.intro hM (And.intro hQ (And.intro hpre hb)))
  dsimp only [stV]
  rw [← hM, ← hQ]
  obtain ⟨W0, hW0⟩ : ∃ W0, W0 = w.alloc (.cells #[.int .i64 fk, .slice la Q ca, .slice lb M cb, .int .i64 sa, .int .i64 sb, .int .i64 sc] 32) := ⟨_, rfl⟩
  have b0 : Below w.heap.size w W0 := hW0 ▸ (Below.refl _ w).alloc (Nat.le_refl _) _
  have hb0 : W0.heap[w.heap.size]? = some (.cells #[.int .i64 fk, .slice la Q ca, .slice lb M cb, .int .i64 sa, .int .i64 sb, .int .i64 sc] 32 (0, 0)) := hW0 ▸ heap_alloc_last w _
  have HW0 := Hid.mk hW0
  rw [← hM] at hs
  clear hpre hRl hR hAm hI hP hM hQ hW0 hf hm hb
  by_cases h1 : fk = 1
  · subst h1
    obtain ⟨rfl, rfl, rfl⟩ := hone rfl
    have hr : rowV ⟨1, fw, 3, 0, false⟩ = .agg #[.string fw, .int .i64 0, .int .i64 0, .bool true, .bool false] := rfl
    rw [hr] at hrow
    have hrow0 := hrow W0
    have HB0 := Hid.mk (And.intro b0 hb0)
    clear hrow hr hone b0 hb0
    go_enter Tryd.func21, Tryd.ntmps21
    go_wp2_with fail
    rw [← HW0.out]
    refine hrow0.mono ?_
    clear hrow0
    rintro r w1 ⟨rfl, b1⟩
    obtain ⟨w2, hw2⟩ : ∃ w2, w2 = w1.alloc (.cells #[.string fw, .int .i64 0, .int .i64 0, .bool true, .bool false] 80) := ⟨_, rfl⟩
    have b2 : Below W0.heap.size W0 w2 := hw2 ▸ b1.alloc b1.size _
    have bw2 : Below w.heap.size w w2 := HB0.out.1.trans (b2.mono HB0.out.1.size)
    have hb2 : w2.heap[w.heap.size]? = _ := (b2.block w.heap.size (Array.getElem?_eq_some_iff.1 HB0.out.2).1).trans HB0.out.2
    have z3 : w2.cell? ⟨w.heap.size, 3, none⟩ = some (.int .i64 sa) := by rw [cell_of_row _ _ _ _ _ (0, 0) hb2]; rfl
    have z4 : w2.cell? ⟨w.heap.size, 4, none⟩ = some (.int .i64 sb) := by rw [cell_of_row _ _ _ _ _ (0, 0) hb2]; rfl
    have z5 : w2.cell? ⟨w.heap.size, 5, none⟩ = some (.int .i64 sc) := by rw [cell_of_row _ _ _ _ _ (0, 0) hb2]; rfl
    have HPw2 := Hid.mk (fun (V : World) (b : Below w2.heap.size w2 V) => HPw.out V (bw2.trans (b.mono bw2.size)))
    have HPw := HPw2
    have HW2 := Hid.mk hw2
    have HB2 := Hid.mk bw2
    have hfw : fw.size ≤ 7 := hwf.2.2.1
    obtain ⟨Aa, hAa⟩ : ∃ A : ByteArray, A = ⟨(Lib.itoa sa).toArray⟩ := ⟨_, rfl⟩
    obtain ⟨Ab, hAb⟩ : ∃ A : ByteArray, A = ⟨(Lib.itoa sb).toArray⟩ := ⟨_, rfl⟩
    obtain ⟨Ac, hAc⟩ : ∃ A : ByteArray, A = ⟨(Lib.itoa sc).toArray⟩ := ⟨_, rfl⟩
    have za : Aa.size ≤ 21 := by rw [hAa]; exact itoa_len sa HI.out.a
    have zb : Ab.size ≤ 21 := by rw [hAb]; exact itoa_len sb HI.out.b
    have zc : Ac.size ≤ 21 := by rw [hAc]; exact itoa_len sc HI.out.c
    have HTa := Hid.mk (fun (V : World) (b : Below w2.heap.size w2 V) => (show Calls Tryd.prog 39 #[.int .i64 sa] V fun e w' => e = .returned (.string Aa) ∧ Below V.heap.size V w' by rw [hAa]; exact itoa_any sa V HI.out.a (HPw.out V b)))
    have HTb := Hid.mk (fun (V : World) (b : Below w2.heap.size w2 V) => (show Calls Tryd.prog 39 #[.int .i64 sb] V fun e w' => e = .returned (.string Ab) ∧ Below V.heap.size V w' by rw [hAb]; exact itoa_any sb V HI.out.b (HPw.out V b)))
    have HTc := Hid.mk (fun (V : World) (b : Below w2.heap.size w2 V) => (show Calls Tryd.prog 39 #[.int .i64 sc] V fun e w' => e = .returned (.string Ac) ∧ Below V.heap.size V w' by rw [hAc]; exact itoa_any sc V HI.out.c (HPw.out V b)))
    have HAA := Hid.mk (show R = fw ++ ⟨#[32]⟩ ++ Aa ++ ⟨#[32]⟩ ++ Ab ++ ⟨#[32]⟩ ++ Ac ++ ⟨#[10]⟩ from by
      have h2 := HR.out
      have h3 : (fw ++ ⟨#[32]⟩ ++ Aa ++ ⟨#[32]⟩ ++ Ab ++ ⟨#[32]⟩ ++ Ac ++ ⟨#[10]⟩ : ByteArray).data.toList = R.data.toList := by
        rw [h2, hAa, hAb, hAc]
        simp [lineF, timesF, wordsF, numsF, numsL, txtsL, pieceL, List.range_succ]
      exact ByteArray.ext (Array.toList_inj.1 h3.symm))
    clear b2 hb2 bw2 hw2 b1 hAa hAb hAc hwf
    go_wp2_with fail
    rw [← HW2.out]
    refine wp_region_held_drew (S := fun w' => w'.cell? ⟨w.heap.size, 3, none⟩ = some (.int .i64 sa) ∧ w'.cell? ⟨w.heap.size, 4, none⟩ = some (.int .i64 sb) ∧ w'.cell? ⟨w.heap.size, 5, none⟩ = some (.int .i64 sc)) (by kernel_rfl) ?_ (fun hHeld => ?_)
    · exact ⟨z3, z4, z5⟩
    refine wpAnyH_take (i := 0) (oi := { dst := some 16, op := Op.move (Operand.tmp 4), type := 9, pos := "text.go:256", after := #[], guard := none }) (v := ?vp0) rfl (by kernel_rfl) (by kernel_rfl) (by kernel_rfl) (fun _ _ _ h => h) (Or.inl ⟨by rfl, ?hp0⟩) (by assumption) ?rp0
    case hp0 => (intro w0 hSw; (try dsimp only at hSw); go_simp; first | done | (with_reducible rfl) | (rw [if_pos (by omega)]; try (with_reducible rfl)) | (rw [if_neg (by omega)]; try (with_reducible rfl)) | (rw [if_neg (by simp [ByteArray.size_append]; omega)]; try (with_reducible rfl)))
    simp only [Act.put, List.setIfInBounds_toArray, List.set_cons_zero, List.set_cons_succ]
    refine wpAnyH_take (i := 1) (oi := { dst := some 17, op := Op.binOp BinOp.add 9 (Operand.tmp 16) (Operand.const (Value.string { data := #[32] })) 9, type := 9, pos := "text.go:256", after := #[{ on := 0, ground := Ground.data }], guard := none }) (v := ?vp1) rfl (by kernel_rfl) (by kernel_rfl) (by kernel_rfl) (fun _ _ _ h => h) (Or.inl ⟨by rfl, ?hp1⟩) (by assumption) ?rp1
    case hp1 => (intro w0 hSw; (try dsimp only at hSw); go_simp; first | done | (with_reducible rfl) | (rw [if_pos (by omega)]; try (with_reducible rfl)) | (rw [if_neg (by omega)]; try (with_reducible rfl)) | (rw [if_neg (by simp [ByteArray.size_append]; omega)]; try (with_reducible rfl)))
    simp only [Act.put, List.setIfInBounds_toArray, List.set_cons_zero, List.set_cons_succ]
    refine wpAnyH_take (i := 2) (oi := { dst := some 18, op := Op.fieldAddr 32 (Operand.tmp 1) 3, type := 0, pos := "text.go:256", after := #[], guard := none }) (v := ?vp2) rfl (by kernel_rfl) (by kernel_rfl) (by kernel_rfl) (fun _ _ _ h => h) (Or.inl ⟨by rfl, ?hp2⟩) (by assumption) ?rp2
    case hp2 => (intro w0 hSw; (try dsimp only at hSw); go_simp; first | done | (with_reducible rfl) | (rw [if_pos (by omega)]; try (with_reducible rfl)) | (rw [if_neg (by omega)]; try (with_reducible rfl)) | (rw [if_neg (by simp [ByteArray.size_append]; omega)]; try (with_reducible rfl)))
    simp only [Act.put, List.setIfInBounds_toArray, List.set_cons_zero, List.set_cons_succ]
    refine wpAnyH_take (i := 3) (oi := { dst := some 19, op := Op.fieldAddr 30 (Operand.tmp 18) 0, type := 0, pos := "text.go:256", after := #[{ on := 2, ground := Ground.data }], guard := none }) (v := ?vp3) rfl (by kernel_rfl) (by kernel_rfl) (by kernel_rfl) (fun _ _ _ h => h) (Or.inl ⟨by rfl, ?hp3⟩) (by assumption) ?rp3
    case hp3 => (intro w0 hSw; (try dsimp only at hSw); go_simp; first | done | (with_reducible rfl) | (rw [if_pos (by omega)]; try (with_reducible rfl)) | (rw [if_neg (by omega)]; try (with_reducible rfl)) | (rw [if_neg (by simp [ByteArray.size_append]; omega)]; try (with_reducible rfl)))
    simp only [Act.put, List.setIfInBounds_toArray, List.set_cons_zero, List.set_cons_succ]
    refine wpAnyH_take (i := 4) (oi := { dst := some 20, op := Op.load 3 (Operand.tmp 19), type := 3, pos := "text.go:256", after := #[{ on := 3, ground := Ground.data }], guard := none }) (v := ?vp4) rfl (by kernel_rfl) (by kernel_rfl) (by kernel_rfl) (fun _ _ _ h => h) (Or.inl ⟨by rfl, ?hp4⟩) (by assumption) ?rp4
    case hp4 => (intro w0 hSw; (try dsimp only at hSw); go_simp; first | done | (with_reducible rfl) | (rw [if_pos (by omega)]; try (with_reducible rfl)) | (rw [if_neg (by omega)]; try (with_reducible rfl)) | (rw [if_neg (by simp [ByteArray.size_append]; omega)]; try (with_reducible rfl)))
    simp only [Act.put, List.setIfInBounds_toArray, List.set_cons_zero, List.set_cons_succ]
    refine wpAnyH_take (i := 8) (oi := { dst := some 24, op := Op.fieldAddr 32 (Operand.tmp 1) 3, type := 0, pos := "text.go:256", after := #[], guard := none }) (v := ?vp8) rfl (by kernel_rfl) (by kernel_rfl) (by kernel_rfl) (fun _ _ _ h => h) (Or.inl ⟨by rfl, ?hp8⟩) (by assumption) ?rp8
    case hp8 => (intro w0 hSw; (try dsimp only at hSw); go_simp; first | done | (with_reducible rfl) | (rw [if_pos (by omega)]; try (with_reducible rfl)) | (rw [if_neg (by omega)]; try (with_reducible rfl)) | (rw [if_neg (by simp [ByteArray.size_append]; omega)]; try (with_reducible rfl)))
    simp only [Act.put, List.setIfInBounds_toArray, List.set_cons_zero, List.set_cons_succ]
    refine wpAnyH_take (i := 9) (oi := { dst := some 25, op := Op.fieldAddr 30 (Operand.tmp 24) 1, type := 0, pos := "text.go:256", after := #[{ on := 8, ground := Ground.data }], guard := none }) (v := ?vp9) rfl (by kernel_rfl) (by kernel_rfl) (by kernel_rfl) (fun _ _ _ h => h) (Or.inl ⟨by rfl, ?hp9⟩) (by assumption) ?rp9
    case hp9 => (intro w0 hSw; (try dsimp only at hSw); go_simp; first | done | (with_reducible rfl) | (rw [if_pos (by omega)]; try (with_reducible rfl)) | (rw [if_neg (by omega)]; try (with_reducible rfl)) | (rw [if_neg (by simp [ByteArray.size_append]; omega)]; try (with_reducible rfl)))
    simp only [Act.put, List.setIfInBounds_toArray, List.set_cons_zero, List.set_cons_succ]
    refine wpAnyH_take (i := 10) (oi := { dst := some 26, op := Op.load 3 (Operand.tmp 25), type := 3, pos := "text.go:256", after := #[{ on := 9, ground := Ground.data }], guard := none }) (v := ?vp10) rfl (by kernel_rfl) (by kernel_rfl) (by kernel_rfl) (fun _ _ _ h => h) (Or.inl ⟨by rfl, ?hp10⟩) (by assumption) ?rp10
    case hp10 => (intro w0 hSw; (try dsimp only at hSw); go_simp; first | done | (with_reducible rfl) | (rw [if_pos (by omega)]; try (with_reducible rfl)) | (rw [if_neg (by omega)]; try (with_reducible rfl)) | (rw [if_neg (by simp [ByteArray.size_append]; omega)]; try (with_reducible rfl)))
    simp only [Act.put, List.setIfInBounds_toArray, List.set_cons_zero, List.set_cons_succ]
    refine wpAnyH_take (i := 14) (oi := { dst := some 30, op := Op.fieldAddr 32 (Operand.tmp 1) 3, type := 0, pos := "text.go:256", after := #[], guard := none }) (v := ?vp14) rfl (by kernel_rfl) (by kernel_rfl) (by kernel_rfl) (fun _ _ _ h => h) (Or.inl ⟨by rfl, ?hp14⟩) (by assumption) ?rp14
    case hp14 => (intro w0 hSw; (try dsimp only at hSw); go_simp; first | done | (with_reducible rfl) | (rw [if_pos (by omega)]; try (with_reducible rfl)) | (rw [if_neg (by omega)]; try (with_reducible rfl)) | (rw [if_neg (by simp [ByteArray.size_append]; omega)]; try (with_reducible rfl)))
    simp only [Act.put, List.setIfInBounds_toArray, List.set_cons_zero, List.set_cons_succ]
    refine wpAnyH_take (i := 15) (oi := { dst := some 31, op := Op.fieldAddr 30 (Operand.tmp 30) 2, type := 0, pos := "text.go:256", after := #[{ on := 14, ground := Ground.data }], guard := none }) (v := ?vp15) rfl (by kernel_rfl) (by kernel_rfl) (by kernel_rfl) (fun _ _ _ h => h) (Or.inl ⟨by rfl, ?hp15⟩) (by assumption) ?rp15
    case hp15 => (intro w0 hSw; (try dsimp only at hSw); go_simp; first | done | (with_reducible rfl) | (rw [if_pos (by omega)]; try (with_reducible rfl)) | (rw [if_neg (by omega)]; try (with_reducible rfl)) | (rw [if_neg (by simp [ByteArray.size_append]; omega)]; try (with_reducible rfl)))
    simp only [Act.put, List.setIfInBounds_toArray, List.set_cons_zero, List.set_cons_succ]
    refine wpAnyH_take (i := 16) (oi := { dst := some 32, op := Op.load 3 (Operand.tmp 31), type := 3, pos := "text.go:256", after := #[{ on := 15, ground := Ground.data }], guard := none }) (v := ?vp16) rfl (by kernel_rfl) (by kernel_rfl) (by kernel_rfl) (fun _ _ _ h => h) (Or.inl ⟨by rfl, ?hp16⟩) (by assumption) ?rp16
    case hp16 => (intro w0 hSw; (try dsimp only at hSw); go_simp; first | done | (with_reducible rfl) | (rw [if_pos (by omega)]; try (with_reducible rfl)) | (rw [if_neg (by omega)]; try (with_reducible rfl)) | (rw [if_neg (by simp [ByteArray.size_append]; omega)]; try (with_reducible rfl)))
    simp only [Act.put, List.setIfInBounds_toArray, List.set_cons_zero, List.set_cons_succ]
    refine wpAnyH_ready (rs := [5]) (by kernel_rfl) (by simp) ?_
    refine AllReadyH.cons rfl (fun K hK => ?_) AllReadyH.nil
    have hit := HTa.out w2.drew ((b_d w2))
    go_simp
    go_wp2_with (go_at_call 39; refine hit.mono ?_; clear hit; rintro r w3 ⟨rfl, b3⟩)
    skip
    refine hK.out _ _ ?_ (fun hHeld => ?_)
    · exact ⟨cell_l b3 z3, cell_l b3 z4, cell_l b3 z5⟩
    clear hK K
    refine wpAnyH_take (i := 6) (oi := { dst := some 22, op := Op.binOp BinOp.add 9 (Operand.tmp 17) (Operand.tmp 21) 9, type := 9, pos := "text.go:256", after := #[{ on := 1, ground := Ground.data }, { on := 5, ground := Ground.data }], guard := none }) (v := ?vp6) rfl (by kernel_rfl) (by kernel_rfl) (by kernel_rfl) (fun _ _ _ h => h) (Or.inl ⟨by rfl, ?hp6⟩) (by assumption) ?rp6
    case hp6 => (intro w0 hSw; (try dsimp only at hSw); go_simp; first | done | (with_reducible rfl) | (rw [if_pos (by omega)]; try (with_reducible rfl)) | (rw [if_neg (by omega)]; try (with_reducible rfl)) | (rw [if_neg (by simp [ByteArray.size_append]; omega)]; try (with_reducible rfl)))
    simp only [Act.put, List.setIfInBounds_toArray, List.set_cons_zero, List.set_cons_succ]
    refine wpAnyH_take (i := 7) (oi := { dst := some 23, op := Op.binOp BinOp.add 9 (Operand.tmp 22) (Operand.const (Value.string { data := #[32] })) 9, type := 9, pos := "text.go:256", after := #[{ on := 6, ground := Ground.data }], guard := none }) (v := ?vp7) rfl (by kernel_rfl) (by kernel_rfl) (by kernel_rfl) (fun _ _ _ h => h) (Or.inl ⟨by rfl, ?hp7⟩) (by assumption) ?rp7
    case hp7 => (intro w0 hSw; (try dsimp only at hSw); go_simp; first | done | (with_reducible rfl) | (rw [if_pos (by omega)]; try (with_reducible rfl)) | (rw [if_neg (by omega)]; try (with_reducible rfl)) | (rw [if_neg (by simp [ByteArray.size_append]; omega)]; try (with_reducible rfl)))
    simp only [Act.put, List.setIfInBounds_toArray, List.set_cons_zero, List.set_cons_succ]
    refine wpAnyH_ready (rs := [11]) (by kernel_rfl) (by simp) ?_
    refine AllReadyH.cons rfl (fun K hK => ?_) AllReadyH.nil
    have hit := HTb.out w3 (below_d b3)
    go_simp
    go_wp2_with (go_at_call 39; refine hit.mono ?_; clear hit; rintro r w4 ⟨rfl, b4'⟩)
    have b4 := chain b3 b4' (Nat.le_refl _)
    refine hK.out _ _ ?_ (fun hHeld => ?_)
    · exact ⟨cell_l b4 z3, cell_l b4 z4, cell_l b4 z5⟩
    clear hK K
    refine wpAnyH_take (i := 12) (oi := { dst := some 28, op := Op.binOp BinOp.add 9 (Operand.tmp 23) (Operand.tmp 27) 9, type := 9, pos := "text.go:256", after := #[{ on := 7, ground := Ground.data }, { on := 11, ground := Ground.data }], guard := none }) (v := ?vp12) rfl (by kernel_rfl) (by kernel_rfl) (by kernel_rfl) (fun _ _ _ h => h) (Or.inl ⟨by rfl, ?hp12⟩) (by assumption) ?rp12
    case hp12 => (intro w0 hSw; (try dsimp only at hSw); go_simp; first | done | (with_reducible rfl) | (rw [if_pos (by omega)]; try (with_reducible rfl)) | (rw [if_neg (by omega)]; try (with_reducible rfl)) | (rw [if_neg (by simp [ByteArray.size_append]; omega)]; try (with_reducible rfl)))
    simp only [Act.put, List.setIfInBounds_toArray, List.set_cons_zero, List.set_cons_succ]
    refine wpAnyH_take (i := 13) (oi := { dst := some 29, op := Op.binOp BinOp.add 9 (Operand.tmp 28) (Operand.const (Value.string { data := #[32] })) 9, type := 9, pos := "text.go:256", after := #[{ on := 12, ground := Ground.data }], guard := none }) (v := ?vp13) rfl (by kernel_rfl) (by kernel_rfl) (by kernel_rfl) (fun _ _ _ h => h) (Or.inl ⟨by rfl, ?hp13⟩) (by assumption) ?rp13
    case hp13 => (intro w0 hSw; (try dsimp only at hSw); go_simp; first | done | (with_reducible rfl) | (rw [if_pos (by omega)]; try (with_reducible rfl)) | (rw [if_neg (by omega)]; try (with_reducible rfl)) | (rw [if_neg (by simp [ByteArray.size_append]; omega)]; try (with_reducible rfl)))
    simp only [Act.put, List.setIfInBounds_toArray, List.set_cons_zero, List.set_cons_succ]
    refine wpAnyH_ready (rs := [17]) (by kernel_rfl) (by simp) ?_
    refine AllReadyH.cons rfl (fun K hK => ?_) AllReadyH.nil
    have hit := HTc.out w4 (below_d b4)
    go_simp
    go_wp2_with (go_at_call 39; refine hit.mono ?_; clear hit; rintro r w5 ⟨rfl, b5'⟩)
    have b5 := chain b4 b5' (Nat.le_refl _)
    refine hK.out _ _ ?_ (fun hHeld => ?_)
    · exact ⟨cell_l b5 z3, cell_l b5 z4, cell_l b5 z5⟩
    clear hK K
    refine wpAnyH_take (i := 18) (oi := { dst := some 34, op := Op.binOp BinOp.add 9 (Operand.tmp 29) (Operand.tmp 33) 9, type := 9, pos := "text.go:256", after := #[{ on := 13, ground := Ground.data }, { on := 17, ground := Ground.data }], guard := none }) (v := ?vp18) rfl (by kernel_rfl) (by kernel_rfl) (by kernel_rfl) (fun _ _ _ h => h) (Or.inl ⟨by rfl, ?hp18⟩) (by assumption) ?rp18
    case hp18 => (intro w0 hSw; (try dsimp only at hSw); go_simp; first | done | (with_reducible rfl) | (rw [if_pos (by omega)]; try (with_reducible rfl)) | (rw [if_neg (by omega)]; try (with_reducible rfl)) | (rw [if_neg (by simp [ByteArray.size_append]; omega)]; try (with_reducible rfl)))
    simp only [Act.put, List.setIfInBounds_toArray, List.set_cons_zero, List.set_cons_succ]
    refine wpAnyH_take (i := 19) (oi := { dst := some 35, op := Op.binOp BinOp.add 9 (Operand.tmp 34) (Operand.const (Value.string { data := #[10] })) 9, type := 9, pos := "text.go:256", after := #[{ on := 18, ground := Ground.data }], guard := none }) (v := ?vp19) rfl (by kernel_rfl) (by kernel_rfl) (by kernel_rfl) (fun _ _ _ h => h) (Or.inl ⟨by rfl, ?hp19⟩) (by assumption) ?rp19
    case hp19 => (intro w0 hSw; (try dsimp only at hSw); go_simp; first | done | (with_reducible rfl) | (rw [if_pos (by omega)]; try (with_reducible rfl)) | (rw [if_neg (by omega)]; try (with_reducible rfl)) | (rw [if_neg (by simp [ByteArray.size_append]; omega)]; try (with_reducible rfl)))
    simp only [Act.put, List.setIfInBounds_toArray, List.set_cons_zero, List.set_cons_succ]
    refine wpAnyH_take (i := 20) (oi := { dst := some 2, op := Op.assign (Operand.tmp 35), type := 9, pos := "text.go:256", after := #[{ on := 19, ground := Ground.data }, { on := 17, ground := Ground.chain }, { on := 0, ground := Ground.phase }, { on := 1, ground := Ground.phase }, { on := 2, ground := Ground.phase }, { on := 3, ground := Ground.phase }, { on := 4, ground := Ground.phase }, { on := 5, ground := Ground.phase }, { on := 6, ground := Ground.phase }, { on := 7, ground := Ground.phase }, { on := 8, ground := Ground.phase }, { on := 9, ground := Ground.phase }, { on := 10, ground := Ground.phase }, { on := 11, ground := Ground.phase }, { on := 12, ground := Ground.phase }, { on := 13, ground := Ground.phase }, { on := 14, ground := Ground.phase }, { on := 15, ground := Ground.phase }, { on := 16, ground := Ground.phase }, { on := 17, ground := Ground.phase }, { on := 18, ground := Ground.phase }, { on := 19, ground := Ground.phase }], guard := none }) (v := ?vp20) rfl (by kernel_rfl) (by kernel_rfl) (by kernel_rfl) (fun _ _ _ h => h) (Or.inl ⟨by rfl, ?hp20⟩) (by assumption) ?rp20
    case hp20 => (intro w0 hSw; (try dsimp only at hSw); go_simp; first | done | (with_reducible rfl) | (rw [if_pos (by omega)]; try (with_reducible rfl)) | (rw [if_neg (by omega)]; try (with_reducible rfl)) | (rw [if_neg (by simp [ByteArray.size_append]; omega)]; try (with_reducible rfl)))
    simp only [Act.put, List.setIfInBounds_toArray, List.set_cons_zero, List.set_cons_succ]
    refine wpAnyH_done (by kernel_rfl) ?_ _
    rw [← HAA.out]
    have HF := Hid.mk (HB2.out.trans ((below_d b5).mono HB2.out.size))
    clear b3 b4 b4' b5 b5'
    go_wp2
    go_ret
    exact ⟨rfl, HF.out⟩
  · have hr : rowV ⟨fk, fw, fn, ft, fo⟩ = .agg #[.string fw, .int .i64 fn, .int .i64 ft, .bool false, .bool fo] := by unfold rowV; simp [h1]
    rw [hr] at hrow
    have hrow0 := hrow W0
    have HB0 := Hid.mk (And.intro b0 hb0)
    clear hr b0 hb0
    cases fo with
    | false =>
      have hts : timesF ⟨fk, fw, fn, ft, false⟩ ⟨fk, sN, sS, sa, sb, sc⟩ = 1 := rfl
      have HFs := Hid.mk (And.intro hts hwf)
      have hM20 := hs
      have hfw : fw.size ≤ 7 := hwf.2.2.1
      have hfn : fn ≤ 3 := hwf.2.2.2.1
      have hft : ft ≤ 1 := hwf.2.2.2.2
      clear hts hwf hrow hone
      go_enter Tryd.func21, Tryd.ntmps21
      go_wp2_with fail
      rw [← HW0.out]
      refine hrow0.mono ?_
      clear hrow0
      rintro r w1 ⟨rfl, b1⟩
      obtain ⟨w2, hw2⟩ : ∃ w2, w2 = w1.alloc (.cells #[.string fw, .int .i64 fn, .int .i64 ft, .bool false, .bool false] 80) := ⟨_, rfl⟩
      have b2 : Below W0.heap.size W0 w2 := hw2 ▸ b1.alloc b1.size _
      have bw2 : Below w.heap.size w w2 := HB0.out.1.trans (b2.mono HB0.out.1.size)
      have hb2 : w2.heap[w.heap.size]? = _ := (b2.block w.heap.size (Array.getElem?_eq_some_iff.1 HB0.out.2).1).trans HB0.out.2
      have hb3 : w2.heap[w1.heap.size]? = some (.cells #[.string fw, .int .i64 fn, .int .i64 ft, .bool false, .bool false] 80 (0, 0)) := hw2 ▸ heap_alloc_last w1 _
      have y0 : (w1.alloc (.cells #[.string fw, .int .i64 fn, .int .i64 ft, .bool false, .bool false] 80)).cell? ⟨w.heap.size, 2, none⟩ = some (.slice lb M cb) := by
        rw [← hw2, cell_of_row _ _ _ _ _ (0, 0) hb2]; rfl
      have HCl := Hid.mk (fun (V : World) (b : Below w2.heap.size w2 V) => (show V.heap[w.heap.size]? = some (.cells #[.int .i64 fk, .slice la Q ca, .slice lb M cb, .int .i64 sa, .int .i64 sb, .int .i64 sc] 32 (0, 0)) ∧ V.heap[w1.heap.size]? = some (.cells #[.string fw, .int .i64 fn, .int .i64 ft, .bool false, .bool false] 80 (0, 0)) from ⟨(b.block _ (Array.getElem?_eq_some_iff.1 hb2).1).trans hb2, (b.block _ (Array.getElem?_eq_some_iff.1 hb3).1).trans hb3⟩))
      have HW2 := Hid.mk hw2
      have HB2 := Hid.mk bw2
      clear b2 hb2 hb3 bw2 hw2 b1
      go_wp2
      rw [← HW2.out]
      clear y0
      go_loopw [4, 6] (fun u4 u6 wr => ∃ (k : Nat) (T : ByteArray), u4 = .string T ∧ u6 = .int .i64 k ∧ k ≤ 1 ∧ Hid (T.data.toList = fw.data.toList ++ (List.range k).flatMap (wordsF ⟨fk, fw, fn, ft, false⟩ ⟨fk, sN, sS, sa, sb, sc⟩)) ∧ Hid (Below w2.heap.size w2 wr)) (fun _ u _ => 1 - (intOf u).toNat)
      case atStart => exact ⟨0, fw, rfl, rfl, Nat.zero_le _, (by show _ = _; simp), Below.refl _ _⟩
      case round =>
        obtain ⟨k, T, rfl, rfl, hk, HT, HB⟩ := hrel
        obtain ⟨g0, g1⟩ := HCl.out wr HB.out
        have y1 : wr.cell? ⟨w1.heap.size, 1, none⟩ = some (.int .i64 fn) := by rw [cell_of_row _ _ _ _ _ (0, 0) g1]; rfl
        have y2 : wr.cell? ⟨w1.heap.size, 2, none⟩ = some (.int .i64 ft) := by rw [cell_of_row _ _ _ _ _ (0, 0) g1]; rfl
        clear g0 g1
        by_cases hlt : k < 1
        · have i1 : (k : Int) < 1 := by omega
          have i2 : (0 : Int) ≤ (k : Int) := by omega
          have hTl : T.size ≤ 80740352 := by
            have e1 : T.size = T.data.toList.length := by simp
            have h1 := HMQ.out.2.2.1 k (by rw [HFs.out.1]; omega)
            have h2 := HMQ.out.2.2.2
            have e2 : fw.data.toList.length = fw.size := by simp
            rw [e1, HT.out, List.length_append, e2]
            omega
          obtain ⟨q, hq⟩ : ∃ q : Nat, (k : Int) * (fn : Int) = q := ⟨k * fn, by rw [Int.natCast_mul]⟩
          have hq2 : k * fn = q := by rw [← Int.natCast_mul] at hq; exact Int.ofNat_inj.1 hq
          have hq3 : q ≤ 1048576 * 3 := by rw [← hq2]; exact Nat.mul_le_mul (by omega) hfn
          obtain ⟨q', hq'⟩ : ∃ q' : Nat, (k : Int) * (ft : Int) = q' := ⟨k * ft, by rw [Int.natCast_mul]⟩
          have hq2' : k * ft = q' := by rw [← Int.natCast_mul] at hq'; exact Int.ofNat_inj.1 hq'
          have hq3' : q' ≤ 1048576 * 1 := by rw [← hq2']; exact Nat.mul_le_mul (by omega) hft
          obtain ⟨NL, hNL⟩ : ∃ NL, NL = pieceL 0 sN k fn := ⟨_, rfl⟩
          obtain ⟨SL, hSL⟩ : ∃ SL, SL = pieceL ⟨#[]⟩ sS k ft := ⟨_, rfl⟩
          have hNg : ∀ i (hi : i < NL.length), sN.getD (q + i) 0 = NL[i] := fun i hi => by subst hNL; simp [pieceL, hq2]
          have hSg : ∀ i (hi : i < SL.length), sS.getD (q' + i) ⟨#[]⟩ = SL[i] := fun i hi => by subst hSL; simp [pieceL, hq2']
          have hNl : NL.length = fn := by rw [hNL, pieceL_len]
          have hSl : SL.length = ft := by rw [hSL, pieceL_len]
          have hNI : ∀ n ∈ NL, I64 n := by rw [hNL]; exact piece_I HI.out.N k fn
          have hSb : bytesS SL ≤ 1048576 := by rw [hSL]; have h1 := piece_one sS k ft hft; have h2 := HMQ.out.2.2.2; omega
          have hwd : wordsF ⟨fk, fw, fn, ft, false⟩ ⟨fk, sN, sS, sa, sb, sc⟩ k = numsL NL ++ txtsL SL := by
            unfold wordsF numsF
            rw [if_neg h1, hNL, hSL]
          have HK := Hid.mk (And.intro hNg (And.intro hSg (And.intro hNl (And.intro hSl (And.intro hNI (And.intro hSb hwd))))))
          have hnl22 : (numsL NL).length ≤ 66 := by have h1 := numsL_len NL hNI; omega
          have HNL := Hid.mk hnl22
          clear hq2 hq2' hNg hSg hNI hSb hwd hNL hSL hNl hSl hnl22
          go_wp2
          go_loopw [4, 7] (fun u4 u7 wv => ∃ (i : Nat) (T1 : ByteArray), u4 = .string T1 ∧ u7 = .int .i64 i ∧ i ≤ fn ∧ Hid (T1.data.toList = T.data.toList ++ numsL (NL.take i)) ∧ Hid (Below w2.heap.size w2 wv)) (fun _ u _ => fn - (intOf u).toNat)
          case atStart => exact ⟨0, T, rfl, rfl, Nat.zero_le _, (by show _ = _; simp [numsL]), HB⟩
          case round =>
            clear y1 y2
            obtain ⟨i, T1, rfl, rfl, hi, HT1, HB1⟩ := hrel
            obtain ⟨g0, g1⟩ := HCl.out _ HB1.out
            have y1 : wr.cell? ⟨w1.heap.size, 1, none⟩ = some (.int .i64 fn) := by rw [cell_of_row _ _ _ _ _ (0, 0) g1]; rfl
            by_cases hlt1 : i < fn
            · have j1 : (i : Int) < (fn : Int) := by omega
              have j2 : (0 : Int) ≤ (i : Int) := by omega
              have x0 : wr.cell? ⟨w.heap.size, 0, none⟩ = some (.int .i64 fk) := by rw [cell_of_row _ _ _ _ _ (0, 0) g0]; rfl
              have x1 : wr.cell? ⟨w.heap.size, 1, none⟩ = some (.slice la Q ca) := by rw [cell_of_row _ _ _ _ _ (0, 0) g0]; rfl
              have x2 : wr.cell? ⟨w.heap.size, 2, none⟩ = some (.slice lb M cb) := by rw [cell_of_row _ _ _ _ _ (0, 0) g0]; rfl
              have x3 : wr.cell? ⟨w.heap.size, 3, none⟩ = some (.int .i64 sa) := by rw [cell_of_row _ _ _ _ _ (0, 0) g0]; rfl
              have x4 : wr.cell? ⟨w.heap.size, 4, none⟩ = some (.int .i64 sb) := by rw [cell_of_row _ _ _ _ _ (0, 0) g0]; rfl
              have x5 : wr.cell? ⟨w.heap.size, 5, none⟩ = some (.int .i64 sc) := by rw [cell_of_row _ _ _ _ _ (0, 0) g0]; rfl
              have hbw : Below w.heap.size w wr := HB2.out.trans (HB1.out.mono HB2.out.size)
              have hnum := number_any (w := wr) ⟨⟨fk, sN, sS, sa, sb, sc⟩, la, ca, lb, cb⟩ (q + i) (HAm.out wr hbw).N (by omega)
              dsimp only [stV] at hnum
              have hiN : i < NL.length := by rw [HK.out.2.2.1]; exact hlt1
              rw [← HMQ.out.2.1, ← HMQ.out.1, HK.out.1 i hiN, show ((q + i : Nat) : Int) = (q : Int) + (i : Int) from by omega] at hnum
              have hsn := numsL_succ NL i hiN
              have h64 := HK.out.2.2.2.2.1 NL[i] (List.getElem_mem hiN)
              have hT1 : T1.size ≤ 80740418 := by
                have e1 : T1.size = T1.data.toList.length := by simp
                have e2 : T.data.toList.length = T.size := by simp
                have h2 := numsL_len (NL.take i) (fun x hx => HK.out.2.2.2.2.1 x (List.mem_of_mem_take hx))
                rw [List.length_take] at h2
                rw [e1, HT1.out, List.length_append, e2]; omega
              generalize NL[i] = n at hnum hsn h64
              obtain ⟨A, hA⟩ : ∃ A : ByteArray, A = ⟨(Lib.itoa n).toArray⟩ := ⟨_, rfl⟩
              have hAl : A.data.toList = Lib.itoa n := by rw [hA]
              have hAs : A.size ≤ 21 := by
                have e1 : A.size = A.data.toList.length := by simp
                rw [e1, hAl]; exact itoa_len n h64
              have HA := Hid.mk (And.intro hsn (And.intro h64 (And.intro hA hAl)))
              have HBW := Hid.mk hbw
              clear hsn h64 hA hAl hbw g0 g1
              go_wp2_with fail
              refine hnum.mono ?_
              clear hnum x0 x1 x2 x3 x4 x5
              rintro r v3 ⟨rfl, b3⟩
              have hit := itoa_any n v3 HA.out.2.1 (HPw.out v3 (HBW.out.trans (b3.mono HBW.out.size)))
              rw [← HA.out.2.2.1] at hit
              go_wp2_with fail
              refine hit.mono ?_
              clear hit
              rintro r v4 ⟨rfl, b4⟩
              have HBN := Hid.mk (HB1.out.trans ((chain b3 b4 (Nat.le_refl _)).mono HB1.out.size))
              clear b3 b4
              go_wp2
              refine ⟨⟨i + 1, _, rfl, rfl, hlt1, ?_, HBN⟩, by simp only [intOf]; omega⟩
              show _ = _
              rw [HA.out.1, ← HA.out.2.2.2, ← List.append_assoc, ← HT1.out]; simp
            · have e : i = fn := by omega
              have hT1 : T1.data.toList = T.data.toList ++ numsL NL := by
                have h2 := HT1.out
                rw [List.take_of_length_le (by rw [HK.out.2.2.1]; omega)] at h2
                exact h2
              have hT1s : T1.size ≤ 80740418 := by
                have e1 : T1.size = T1.data.toList.length := by simp
                have e2 : T.data.toList.length = T.size := by simp
                have h2 := HNL.out
                rw [e1, hT1, List.length_append, e2]; omega
              have HT1' := Hid.mk hT1
              clear hT1 HT1 e g0 g1
              go_wp2
              go_loopw [4, 8] (fun u4 u8 wv => ∃ (j : Nat) (T2 : ByteArray), u4 = .string T2 ∧ u8 = .int .i64 j ∧ j ≤ ft ∧ Hid (T2.data.toList = T1.data.toList ++ txtsL (SL.take j)) ∧ Hid (Below w2.heap.size w2 wv)) (fun _ u _ => ft - (intOf u).toNat)
              case atStart => exact ⟨0, T1, rfl, rfl, Nat.zero_le _, (by show _ = _; simp [txtsL]), HB1⟩
              case round =>
                clear y1
                obtain ⟨j, T2, rfl, rfl, hj, HT2, HB3⟩ := hrel
                obtain ⟨g0, g1⟩ := HCl.out _ HB3.out
                have y2 : wr.cell? ⟨w1.heap.size, 2, none⟩ = some (.int .i64 ft) := by rw [cell_of_row _ _ _ _ _ (0, 0) g1]; rfl
                by_cases hlt2 : j < ft
                · have j1 : (j : Int) < (ft : Int) := by omega
                  have j2 : (0 : Int) ≤ (j : Int) := by omega
                  have x0 : wr.cell? ⟨w.heap.size, 0, none⟩ = some (.int .i64 fk) := by rw [cell_of_row _ _ _ _ _ (0, 0) g0]; rfl
                  have x1 : wr.cell? ⟨w.heap.size, 1, none⟩ = some (.slice la Q ca) := by rw [cell_of_row _ _ _ _ _ (0, 0) g0]; rfl
                  have x2 : wr.cell? ⟨w.heap.size, 2, none⟩ = some (.slice lb M cb) := by rw [cell_of_row _ _ _ _ _ (0, 0) g0]; rfl
                  have x3 : wr.cell? ⟨w.heap.size, 3, none⟩ = some (.int .i64 sa) := by rw [cell_of_row _ _ _ _ _ (0, 0) g0]; rfl
                  have x4 : wr.cell? ⟨w.heap.size, 4, none⟩ = some (.int .i64 sb) := by rw [cell_of_row _ _ _ _ _ (0, 0) g0]; rfl
                  have x5 : wr.cell? ⟨w.heap.size, 5, none⟩ = some (.int .i64 sc) := by rw [cell_of_row _ _ _ _ _ (0, 0) g0]; rfl
                  have hbw : Below w.heap.size w wr := HB2.out.trans (HB3.out.mono HB2.out.size)
                  have hwd := word_any (w := wr) ⟨⟨fk, sN, sS, sa, sb, sc⟩, la, ca, lb, cb⟩ (q' + j) (HAm.out wr hbw).S (by omega)
                  dsimp only [stV] at hwd
                  have hjS : j < SL.length := by rw [HK.out.2.2.2.1]; exact hlt2
                  rw [← HMQ.out.2.1, ← HMQ.out.1, HK.out.2.1 j hjS, show ((q' + j : Nat) : Int) = (q' : Int) + (j : Int) from by omega] at hwd
                  have hsn := txtsL_succ SL j hjS
                  have hsz := bytesS_mem (List.getElem_mem hjS)
                  have hSB := HK.out.2.2.2.2.2.1
                  have hT2 : T2.size ≤ 80740418 + 3145730 := by
                    have e1 : T2.size = T2.data.toList.length := by simp
                    have e2 : T1.data.toList.length = T1.size := by simp
                    have h2 := txtsL_len (SL.take j)
                    have h3 := take_bytes SL j
                    rw [List.length_take] at h2
                    rw [e1, HT2.out, List.length_append, e2]; omega
                  generalize SL[j] = t at hwd hsn hsz
                  have hesc := fun (V : World) => escape_any t V (by omega)
                  obtain ⟨A, hA⟩ : ∃ A : ByteArray, A = ⟨(escL t.data.toList).toArray⟩ := ⟨_, rfl⟩
                  rw [← hA] at hesc
                  have hAl : A.data.toList = escL t.data.toList := by rw [hA]
                  have hAs : A.size ≤ 3145729 := by
                    have e1 : A.size = A.data.toList.length := by simp
                    have e2 : t.data.toList.length = t.size := by simp
                    have h2 := escL_len t.data.toList
                    rw [e1, hAl]; omega
                  have HA := Hid.mk (And.intro hsn hAl)
                  clear hsn hsz hSB hA hAl hbw g0 g1
                  go_wp2_with fail
                  refine hwd.mono ?_
                  clear hwd x0 x1 x2 x3 x4 x5
                  rintro r v3 ⟨rfl, b3⟩
                  go_wp2_with fail
                  refine (hesc v3).mono ?_
                  clear hesc
                  rintro r v4 ⟨rfl, b4⟩
                  have HBN := Hid.mk (HB3.out.trans ((chain b3 b4 (Nat.le_refl _)).mono HB3.out.size))
                  clear b3 b4
                  go_wp2
                  refine ⟨⟨j + 1, _, rfl, rfl, hlt2, ?_, HBN⟩, by simp only [intOf]; omega⟩
                  show _ = _
                  rw [HA.out.1, ← HA.out.2, ← List.append_assoc, ← HT2.out]; simp
                · have hT2 : T2.data.toList = fw.data.toList ++ (List.range (k + 1)).flatMap (wordsF ⟨fk, fw, fn, ft, false⟩ ⟨fk, sN, sS, sa, sb, sc⟩) := by
                    have h2 := HT2.out
                    rw [List.take_of_length_le (by rw [HK.out.2.2.2.1]; omega), HT1'.out, HT.out] at h2
                    rw [List.range_succ, List.flatMap_append, List.flatMap_cons, List.flatMap_nil, List.append_nil, HK.out.2.2.2.2.2.2, h2]
                    simp only [List.append_assoc]
                  have HT3 := Hid.mk hT2
                  clear hT2 g0 g1
                  go_wp2
                  exact ⟨⟨k + 1, T2, rfl, rfl, hlt, HT3, HB3⟩, by simp only [intOf]; omega⟩
        · have e : k = 1 := by omega
          have hTl : T.size ≤ 80740352 := by
            have e1 : T.size = T.data.toList.length := by simp
            have h1 := HMQ.out.2.2.1 k (by rw [HFs.out.1]; omega)
            have h2 := HMQ.out.2.2.2
            have e2 : fw.data.toList.length = fw.size := by simp
            rw [e1, HT.out, List.length_append, e2]
            omega
          have hRT : R = T ++ ⟨#[10]⟩ := by
            have h2 := HR.out
            unfold lineF at h2
            rw [HFs.out.1, ← e] at h2
            dsimp only at h2
            rw [← HT.out] at h2
            exact ByteArray.ext (Array.toList_inj.1 (by rw [h2]; simp))
          have HF := Hid.mk (HB2.out.trans (HB.out.mono HB2.out.size))
          have HRT := Hid.mk hRT
          clear hRT HT y1 y2
          subst e
          go_wp2
          rw [← HRT.out]
          go_ret
          exact ⟨rfl, HF.out⟩
    | true =>
      have hts : timesF ⟨fk, fw, fn, ft, true⟩ ⟨fk, sN, sS, sa, sb, sc⟩ = M := Eq.trans rfl HMQ.out.1.symm
      have HFs := Hid.mk (And.intro hts hwf)
      have hM20 := hs
      have hfw : fw.size ≤ 7 := hwf.2.2.1
      have hfn : fn ≤ 3 := hwf.2.2.2.1
      have hft : ft ≤ 1 := hwf.2.2.2.2
      clear hts hwf hrow hone
      go_enter Tryd.func21, Tryd.ntmps21
      go_wp2_with fail
      rw [← HW0.out]
      refine hrow0.mono ?_
      clear hrow0
      rintro r w1 ⟨rfl, b1⟩
      obtain ⟨w2, hw2⟩ : ∃ w2, w2 = w1.alloc (.cells #[.string fw, .int .i64 fn, .int .i64 ft, .bool false, .bool true] 80) := ⟨_, rfl⟩
      have b2 : Below W0.heap.size W0 w2 := hw2 ▸ b1.alloc b1.size _
      have bw2 : Below w.heap.size w w2 := HB0.out.1.trans (b2.mono HB0.out.1.size)
      have hb2 : w2.heap[w.heap.size]? = _ := (b2.block w.heap.size (Array.getElem?_eq_some_iff.1 HB0.out.2).1).trans HB0.out.2
      have hb3 : w2.heap[w1.heap.size]? = some (.cells #[.string fw, .int .i64 fn, .int .i64 ft, .bool false, .bool true] 80 (0, 0)) := hw2 ▸ heap_alloc_last w1 _
      have y0 : (w1.alloc (.cells #[.string fw, .int .i64 fn, .int .i64 ft, .bool false, .bool true] 80)).cell? ⟨w.heap.size, 2, none⟩ = some (.slice lb M cb) := by
        rw [← hw2, cell_of_row _ _ _ _ _ (0, 0) hb2]; rfl
      have HCl := Hid.mk (fun (V : World) (b : Below w2.heap.size w2 V) => (show V.heap[w.heap.size]? = some (.cells #[.int .i64 fk, .slice la Q ca, .slice lb M cb, .int .i64 sa, .int .i64 sb, .int .i64 sc] 32 (0, 0)) ∧ V.heap[w1.heap.size]? = some (.cells #[.string fw, .int .i64 fn, .int .i64 ft, .bool false, .bool true] 80 (0, 0)) from ⟨(b.block _ (Array.getElem?_eq_some_iff.1 hb2).1).trans hb2, (b.block _ (Array.getElem?_eq_some_iff.1 hb3).1).trans hb3⟩))
      have HW2 := Hid.mk hw2
      have HB2 := Hid.mk bw2
      clear b2 hb2 hb3 bw2 hw2 b1
      go_wp2
      rw [← HW2.out]
      clear y0
      go_loopw [4, 6] (fun u4 u6 wr => ∃ (k : Nat) (T : ByteArray), u4 = .string T ∧ u6 = .int .i64 k ∧ k ≤ M ∧ Hid (T.data.toList = fw.data.toList ++ (List.range k).flatMap (wordsF ⟨fk, fw, fn, ft, true⟩ ⟨fk, sN, sS, sa, sb, sc⟩)) ∧ Hid (Below w2.heap.size w2 wr)) (fun _ u _ => M - (intOf u).toNat)
      case atStart => exact ⟨0, fw, rfl, rfl, Nat.zero_le _, (by show _ = _; simp), Below.refl _ _⟩
      case round =>
        obtain ⟨k, T, rfl, rfl, hk, HT, HB⟩ := hrel
        obtain ⟨g0, g1⟩ := HCl.out wr HB.out
        have y1 : wr.cell? ⟨w1.heap.size, 1, none⟩ = some (.int .i64 fn) := by rw [cell_of_row _ _ _ _ _ (0, 0) g1]; rfl
        have y2 : wr.cell? ⟨w1.heap.size, 2, none⟩ = some (.int .i64 ft) := by rw [cell_of_row _ _ _ _ _ (0, 0) g1]; rfl
        clear g0 g1
        by_cases hlt : k < M
        · have i1 : (k : Int) < (M : Int) := by omega
          have i2 : (0 : Int) ≤ (k : Int) := by omega
          have hTl : T.size ≤ 80740352 := by
            have e1 : T.size = T.data.toList.length := by simp
            have h1 := HMQ.out.2.2.1 k (by rw [HFs.out.1]; omega)
            have h2 := HMQ.out.2.2.2
            have e2 : fw.data.toList.length = fw.size := by simp
            rw [e1, HT.out, List.length_append, e2]
            omega
          obtain ⟨q, hq⟩ : ∃ q : Nat, (k : Int) * (fn : Int) = q := ⟨k * fn, by rw [Int.natCast_mul]⟩
          have hq2 : k * fn = q := by rw [← Int.natCast_mul] at hq; exact Int.ofNat_inj.1 hq
          have hq3 : q ≤ 1048576 * 3 := by rw [← hq2]; exact Nat.mul_le_mul (by omega) hfn
          obtain ⟨q', hq'⟩ : ∃ q' : Nat, (k : Int) * (ft : Int) = q' := ⟨k * ft, by rw [Int.natCast_mul]⟩
          have hq2' : k * ft = q' := by rw [← Int.natCast_mul] at hq'; exact Int.ofNat_inj.1 hq'
          have hq3' : q' ≤ 1048576 * 1 := by rw [← hq2']; exact Nat.mul_le_mul (by omega) hft
          obtain ⟨NL, hNL⟩ : ∃ NL, NL = pieceL 0 sN k fn := ⟨_, rfl⟩
          obtain ⟨SL, hSL⟩ : ∃ SL, SL = pieceL ⟨#[]⟩ sS k ft := ⟨_, rfl⟩
          have hNg : ∀ i (hi : i < NL.length), sN.getD (q + i) 0 = NL[i] := fun i hi => by subst hNL; simp [pieceL, hq2]
          have hSg : ∀ i (hi : i < SL.length), sS.getD (q' + i) ⟨#[]⟩ = SL[i] := fun i hi => by subst hSL; simp [pieceL, hq2']
          have hNl : NL.length = fn := by rw [hNL, pieceL_len]
          have hSl : SL.length = ft := by rw [hSL, pieceL_len]
          have hNI : ∀ n ∈ NL, I64 n := by rw [hNL]; exact piece_I HI.out.N k fn
          have hSb : bytesS SL ≤ 1048576 := by rw [hSL]; have h1 := piece_one sS k ft hft; have h2 := HMQ.out.2.2.2; omega
          have hwd : wordsF ⟨fk, fw, fn, ft, true⟩ ⟨fk, sN, sS, sa, sb, sc⟩ k = numsL NL ++ txtsL SL := by
            unfold wordsF numsF
            rw [if_neg h1, hNL, hSL]
          have HK := Hid.mk (And.intro hNg (And.intro hSg (And.intro hNl (And.intro hSl (And.intro hNI (And.intro hSb hwd))))))
          have hnl22 : (numsL NL).length ≤ 66 := by have h1 := numsL_len NL hNI; omega
          have HNL := Hid.mk hnl22
          clear hq2 hq2' hNg hSg hNI hSb hwd hNL hSL hNl hSl hnl22
          go_wp2
          go_loopw [4, 7] (fun u4 u7 wv => ∃ (i : Nat) (T1 : ByteArray), u4 = .string T1 ∧ u7 = .int .i64 i ∧ i ≤ fn ∧ Hid (T1.data.toList = T.data.toList ++ numsL (NL.take i)) ∧ Hid (Below w2.heap.size w2 wv)) (fun _ u _ => fn - (intOf u).toNat)
          case atStart => exact ⟨0, T, rfl, rfl, Nat.zero_le _, (by show _ = _; simp [numsL]), HB⟩
          case round =>
            clear y1 y2
            obtain ⟨i, T1, rfl, rfl, hi, HT1, HB1⟩ := hrel
            obtain ⟨g0, g1⟩ := HCl.out _ HB1.out
            have y1 : wr.cell? ⟨w1.heap.size, 1, none⟩ = some (.int .i64 fn) := by rw [cell_of_row _ _ _ _ _ (0, 0) g1]; rfl
            by_cases hlt1 : i < fn
            · have j1 : (i : Int) < (fn : Int) := by omega
              have j2 : (0 : Int) ≤ (i : Int) := by omega
              have x0 : wr.cell? ⟨w.heap.size, 0, none⟩ = some (.int .i64 fk) := by rw [cell_of_row _ _ _ _ _ (0, 0) g0]; rfl
              have x1 : wr.cell? ⟨w.heap.size, 1, none⟩ = some (.slice la Q ca) := by rw [cell_of_row _ _ _ _ _ (0, 0) g0]; rfl
              have x2 : wr.cell? ⟨w.heap.size, 2, none⟩ = some (.slice lb M cb) := by rw [cell_of_row _ _ _ _ _ (0, 0) g0]; rfl
              have x3 : wr.cell? ⟨w.heap.size, 3, none⟩ = some (.int .i64 sa) := by rw [cell_of_row _ _ _ _ _ (0, 0) g0]; rfl
              have x4 : wr.cell? ⟨w.heap.size, 4, none⟩ = some (.int .i64 sb) := by rw [cell_of_row _ _ _ _ _ (0, 0) g0]; rfl
              have x5 : wr.cell? ⟨w.heap.size, 5, none⟩ = some (.int .i64 sc) := by rw [cell_of_row _ _ _ _ _ (0, 0) g0]; rfl
              have hbw : Below w.heap.size w wr := HB2.out.trans (HB1.out.mono HB2.out.size)
              have hnum := number_any (w := wr) ⟨⟨fk, sN, sS, sa, sb, sc⟩, la, ca, lb, cb⟩ (q + i) (HAm.out wr hbw).N (by omega)
              dsimp only [stV] at hnum
              have hiN : i < NL.length := by rw [HK.out.2.2.1]; exact hlt1
              rw [← HMQ.out.2.1, ← HMQ.out.1, HK.out.1 i hiN, show ((q + i : Nat) : Int) = (q : Int) + (i : Int) from by omega] at hnum
              have hsn := numsL_succ NL i hiN
              have h64 := HK.out.2.2.2.2.1 NL[i] (List.getElem_mem hiN)
              have hT1 : T1.size ≤ 80740418 := by
                have e1 : T1.size = T1.data.toList.length := by simp
                have e2 : T.data.toList.length = T.size := by simp
                have h2 := numsL_len (NL.take i) (fun x hx => HK.out.2.2.2.2.1 x (List.mem_of_mem_take hx))
                rw [List.length_take] at h2
                rw [e1, HT1.out, List.length_append, e2]; omega
              generalize NL[i] = n at hnum hsn h64
              obtain ⟨A, hA⟩ : ∃ A : ByteArray, A = ⟨(Lib.itoa n).toArray⟩ := ⟨_, rfl⟩
              have hAl : A.data.toList = Lib.itoa n := by rw [hA]
              have hAs : A.size ≤ 21 := by
                have e1 : A.size = A.data.toList.length := by simp
                rw [e1, hAl]; exact itoa_len n h64
              have HA := Hid.mk (And.intro hsn (And.intro h64 (And.intro hA hAl)))
              have HBW := Hid.mk hbw
              clear hsn h64 hA hAl hbw g0 g1
              go_wp2_with fail
              refine hnum.mono ?_
              clear hnum x0 x1 x2 x3 x4 x5
              rintro r v3 ⟨rfl, b3⟩
              have hit := itoa_any n v3 HA.out.2.1 (HPw.out v3 (HBW.out.trans (b3.mono HBW.out.size)))
              rw [← HA.out.2.2.1] at hit
              go_wp2_with fail
              refine hit.mono ?_
              clear hit
              rintro r v4 ⟨rfl, b4⟩
              have HBN := Hid.mk (HB1.out.trans ((chain b3 b4 (Nat.le_refl _)).mono HB1.out.size))
              clear b3 b4
              go_wp2
              refine ⟨⟨i + 1, _, rfl, rfl, hlt1, ?_, HBN⟩, by simp only [intOf]; omega⟩
              show _ = _
              rw [HA.out.1, ← HA.out.2.2.2, ← List.append_assoc, ← HT1.out]; simp
            · have e : i = fn := by omega
              have hT1 : T1.data.toList = T.data.toList ++ numsL NL := by
                have h2 := HT1.out
                rw [List.take_of_length_le (by rw [HK.out.2.2.1]; omega)] at h2
                exact h2
              have hT1s : T1.size ≤ 80740418 := by
                have e1 : T1.size = T1.data.toList.length := by simp
                have e2 : T.data.toList.length = T.size := by simp
                have h2 := HNL.out
                rw [e1, hT1, List.length_append, e2]; omega
              have HT1' := Hid.mk hT1
              clear hT1 HT1 e g0 g1
              go_wp2
              go_loopw [4, 8] (fun u4 u8 wv => ∃ (j : Nat) (T2 : ByteArray), u4 = .string T2 ∧ u8 = .int .i64 j ∧ j ≤ ft ∧ Hid (T2.data.toList = T1.data.toList ++ txtsL (SL.take j)) ∧ Hid (Below w2.heap.size w2 wv)) (fun _ u _ => ft - (intOf u).toNat)
              case atStart => exact ⟨0, T1, rfl, rfl, Nat.zero_le _, (by show _ = _; simp [txtsL]), HB1⟩
              case round =>
                clear y1
                obtain ⟨j, T2, rfl, rfl, hj, HT2, HB3⟩ := hrel
                obtain ⟨g0, g1⟩ := HCl.out _ HB3.out
                have y2 : wr.cell? ⟨w1.heap.size, 2, none⟩ = some (.int .i64 ft) := by rw [cell_of_row _ _ _ _ _ (0, 0) g1]; rfl
                by_cases hlt2 : j < ft
                · have j1 : (j : Int) < (ft : Int) := by omega
                  have j2 : (0 : Int) ≤ (j : Int) := by omega
                  have x0 : wr.cell? ⟨w.heap.size, 0, none⟩ = some (.int .i64 fk) := by rw [cell_of_row _ _ _ _ _ (0, 0) g0]; rfl
                  have x1 : wr.cell? ⟨w.heap.size, 1, none⟩ = some (.slice la Q ca) := by rw [cell_of_row _ _ _ _ _ (0, 0) g0]; rfl
                  have x2 : wr.cell? ⟨w.heap.size, 2, none⟩ = some (.slice lb M cb) := by rw [cell_of_row _ _ _ _ _ (0, 0) g0]; rfl
                  have x3 : wr.cell? ⟨w.heap.size, 3, none⟩ = some (.int .i64 sa) := by rw [cell_of_row _ _ _ _ _ (0, 0) g0]; rfl
                  have x4 : wr.cell? ⟨w.heap.size, 4, none⟩ = some (.int .i64 sb) := by rw [cell_of_row _ _ _ _ _ (0, 0) g0]; rfl
                  have x5 : wr.cell? ⟨w.heap.size, 5, none⟩ = some (.int .i64 sc) := by rw [cell_of_row _ _ _ _ _ (0, 0) g0]; rfl
                  have hbw : Below w.heap.size w wr := HB2.out.trans (HB3.out.mono HB2.out.size)
                  have hwd := word_any (w := wr) ⟨⟨fk, sN, sS, sa, sb, sc⟩, la, ca, lb, cb⟩ (q' + j) (HAm.out wr hbw).S (by omega)
                  dsimp only [stV] at hwd
                  have hjS : j < SL.length := by rw [HK.out.2.2.2.1]; exact hlt2
                  rw [← HMQ.out.2.1, ← HMQ.out.1, HK.out.2.1 j hjS, show ((q' + j : Nat) : Int) = (q' : Int) + (j : Int) from by omega] at hwd
                  have hsn := txtsL_succ SL j hjS
                  have hsz := bytesS_mem (List.getElem_mem hjS)
                  have hSB := HK.out.2.2.2.2.2.1
                  have hT2 : T2.size ≤ 80740418 + 3145730 := by
                    have e1 : T2.size = T2.data.toList.length := by simp
                    have e2 : T1.data.toList.length = T1.size := by simp
                    have h2 := txtsL_len (SL.take j)
                    have h3 := take_bytes SL j
                    rw [List.length_take] at h2
                    rw [e1, HT2.out, List.length_append, e2]; omega
                  generalize SL[j] = t at hwd hsn hsz
                  have hesc := fun (V : World) => escape_any t V (by omega)
                  obtain ⟨A, hA⟩ : ∃ A : ByteArray, A = ⟨(escL t.data.toList).toArray⟩ := ⟨_, rfl⟩
                  rw [← hA] at hesc
                  have hAl : A.data.toList = escL t.data.toList := by rw [hA]
                  have hAs : A.size ≤ 3145729 := by
                    have e1 : A.size = A.data.toList.length := by simp
                    have e2 : t.data.toList.length = t.size := by simp
                    have h2 := escL_len t.data.toList
                    rw [e1, hAl]; omega
                  have HA := Hid.mk (And.intro hsn hAl)
                  clear hsn hsz hSB hA hAl hbw g0 g1
                  go_wp2_with fail
                  refine hwd.mono ?_
                  clear hwd x0 x1 x2 x3 x4 x5
                  rintro r v3 ⟨rfl, b3⟩
                  go_wp2_with fail
                  refine (hesc v3).mono ?_
                  clear hesc
                  rintro r v4 ⟨rfl, b4⟩
                  have HBN := Hid.mk (HB3.out.trans ((chain b3 b4 (Nat.le_refl _)).mono HB3.out.size))
                  clear b3 b4
                  go_wp2
                  refine ⟨⟨j + 1, _, rfl, rfl, hlt2, ?_, HBN⟩, by simp only [intOf]; omega⟩
                  show _ = _
                  rw [HA.out.1, ← HA.out.2, ← List.append_assoc, ← HT2.out]; simp
                · have hT2 : T2.data.toList = fw.data.toList ++ (List.range (k + 1)).flatMap (wordsF ⟨fk, fw, fn, ft, true⟩ ⟨fk, sN, sS, sa, sb, sc⟩) := by
                    have h2 := HT2.out
                    rw [List.take_of_length_le (by rw [HK.out.2.2.2.1]; omega), HT1'.out, HT.out] at h2
                    rw [List.range_succ, List.flatMap_append, List.flatMap_cons, List.flatMap_nil, List.append_nil, HK.out.2.2.2.2.2.2, h2]
                    simp only [List.append_assoc]
                  have HT3 := Hid.mk hT2
                  clear hT2 g0 g1
                  go_wp2
                  exact ⟨⟨k + 1, T2, rfl, rfl, hlt, HT3, HB3⟩, by simp only [intOf]; omega⟩
        · have e : k = M := by omega
          have hTl : T.size ≤ 80740352 := by
            have e1 : T.size = T.data.toList.length := by simp
            have h1 := HMQ.out.2.2.1 k (by rw [HFs.out.1]; omega)
            have h2 := HMQ.out.2.2.2
            have e2 : fw.data.toList.length = fw.size := by simp
            rw [e1, HT.out, List.length_append, e2]
            omega
          have hRT : R = T ++ ⟨#[10]⟩ := by
            have h2 := HR.out
            unfold lineF at h2
            rw [HFs.out.1, ← e] at h2
            dsimp only at h2
            rw [← HT.out] at h2
            exact ByteArray.ext (Array.toList_inj.1 (by rw [h2]; simp))
          have HF := Hid.mk (HB2.out.trans (HB.out.mono HB2.out.size))
          have HRT := Hid.mk hRT
          clear hRT HT y1 y2
          subst e
          go_wp2
          rw [← HRT.out]
          go_ret
          exact ⟨rfl, HF.out⟩
end Go.Proofs.YtojnlngpgbcimaaDoor
