/-
  DERIVED. RDk8, as one text.
-/
import Derived.Test.YtjkhhjboejkafaaDoorLzAV
set_option linter.unusedVariables false
set_option linter.unusedSimpArgs false
namespace Go.Proofs.YtjkhhjboejkafaaDoor.Dk
open Go.RowKit Go.Maps Go.Proofs.DiskMath
theorem fd_one (s d : ByteArray) (u : Int) (hn : isNm s.data.toList = true) : lkD false s [⟨s, d, u⟩] = (0, 0) := by
  unfold lkD fdI
  simp [hn]
theorem emp_app (b : ByteArray) : (⟨#[]⟩ : ByteArray) ++ b = b := ba_eq (by simp)
theorem wrapN (n : Nat) (h : n ≤ 1152921504606846976) : wrap64 ((n : Int)) = (n : Int) := by unfold wrap64; omega
set_option maxRecDepth 100000 in
/-- What stands where the file is put back. -/
theorem rapp_mid {d g c : Nat} {cuts cnt : Int} {dn : Bool} {u : Int} (s b : ByteArray) (w : World) (h : RD4 w d [⟨s, ⟨#[]⟩, u⟩] (.slice (some ⟨g, 0, none⟩) 1 c) 1048576 false 0 dn cuts cnt) (X : World) (hX : X = (w.alloc (.cells #[.string s, .string b, .int .i64 u] 61)).drew) :
    (∀ (w4 : World) (a : Option Addr) (c' : Nat), w4.ownsRow 0 61 3 (.slice a 1 c') 1 ([(⟨s, b, u⟩ : Fi)].flatMap fiC) → (∀ k, (Value.slice a 1 c').ownBlock = some k → X.drew.heap.size ≤ k) → Below X.drew.heap.size X.drew w4 →
      w4.frozen? ⟨d, 1, none⟩ = false ∧ w4.cell? ⟨d, 1, none⟩ = some (.slice (some ⟨g, 0, none⟩) 1 c) ∧
      ((w4.setCell ⟨d, 1, none⟩ (.slice a 1 c')).cell? ⟨w.heap.size, 0, none⟩ = some (.string s) ∧ (w4.setCell ⟨d, 1, none⟩ (.slice a 1 c')).cell? ⟨w.heap.size, 1, none⟩ = some (.string b) ∧ (w4.setCell ⟨d, 1, none⟩ (.slice a 1 c')).cell? ⟨w.heap.size, 2, none⟩ = some (.int .i64 u)) ∧
      RD4 (w4.setCell ⟨d, 1, none⟩ (.slice a 1 c')) d [⟨s, b, u⟩] (.slice a 1 c') 1048576 false 0 dn cuts cnt ∧ Stay (fun k => k = d) w (w4.setCell ⟨d, 1, none⟩ (.slice a 1 c')) ∧ (∀ k, (Value.slice a 1 c').ownBlock = some k → w.heap.size ≤ k)) ∧
    (Calls Tryd.prog 23 #[.slice (some ⟨g, 0, none⟩) 1 c, .agg #[.string s, .string b, .int .i64 u]] X.drew fun e w' => ∃ a c', e = .returned (.slice a 1 c') ∧ w'.ownsRow 0 61 3 (.slice a 1 c') 1 ([(⟨s, b, u⟩ : Fi)].flatMap fiC) ∧ (∀ k, (Value.slice a 1 c').ownBlock = some k → X.drew.heap.size ≤ k) ∧ Below X.drew.heap.size X.drew w') ∧
    X.cell? ⟨d, 1, none⟩ = some (.slice (some ⟨g, 0, none⟩) 1 c) ∧ X.cell? ⟨w.heap.size, 0, none⟩ = some (.string s) ∧ X.cell? ⟨w.heap.size, 1, none⟩ = some (.string b) ∧ X.cell? ⟨w.heap.size, 2, none⟩ = some (.int .i64 u) ∧ d < X.heap.size := by
  obtain ⟨y0, y1, -, -, -, -, -⟩ := h.cell
  obtain ⟨g', c1, e, z0, z1, z2⟩ := h.file 0 (by simp)
  simp only [Value.slice.injEq, Option.some.injEq, Addr.mk.injEq, List.length_singleton] at e
  obtain ⟨⟨rfl, -⟩, -, rfl⟩ := e
  simp only [List.getElem_cons_zero, Nat.zero_mul, Nat.zero_add, List.length_singleton] at z0 z1 z2 y1
  have hz : d < w.heap.size := World.block_lt_of_cell? w _ y0
  have bA : Below w.heap.size w (w.alloc (.cells #[.string s, .string b, .int .i64 u] 61)) := (Below.refl _ w).alloc (Nat.le_refl _) _
  have hbA := heap_alloc_last w (.cells #[.string s, .string b, .int .i64 u] 61)
  have b0 : (w.alloc (.cells #[.string s, .string b, .int .i64 u] 61)).cell? ⟨w.heap.size, 0, none⟩ = some (.string s) := by rw [cell_of_row _ _ 0 _ _ (0, 0) hbA]; rfl
  have b1 : (w.alloc (.cells #[.string s, .string b, .int .i64 u] 61)).cell? ⟨w.heap.size, 1, none⟩ = some (.string b) := by rw [cell_of_row _ _ 1 _ _ (0, 0) hbA]; rfl
  have b2 : (w.alloc (.cells #[.string s, .string b, .int .i64 u] 61)).cell? ⟨w.heap.size, 2, none⟩ = some (.int .i64 u) := by rw [cell_of_row _ _ 2 _ _ (0, 0) hbA]; rfl
  have bX : Below w.heap.size w X := hX ▸ bA.drew
  have hXs : X.heap.size = w.heap.size + 1 := by rw [hX]; simp
  have x1 := cell_lat bX y1
  have x0 := cell_lat bX y0
  have w0 := cell_lat bX z0
  have w1 := cell_lat bX z1
  have w2 := cell_lat bX z2
  have c0 : X.cell? ⟨w.heap.size, 0, none⟩ = some (.string s) := by rw [hX]; exact b0
  have c1 : X.cell? ⟨w.heap.size, 1, none⟩ = some (.string b) := by rw [hX]; exact b1
  have c2 : X.cell? ⟨w.heap.size, 2, none⟩ = some (.int .i64 u) := by rw [hX]; exact b2
  refine ⟨fun w4 a c' k1 k2 k3 => ?_, rwith_one s b ⟨#[]⟩ u u g c X.drew w0 w1 w2, x1, c0, c1, c2, by omega⟩
  have k4 : Below X.heap.size X w4 := chain (b_drew X) k3 (Nat.le_refl _)
  have k5 : Below w.heap.size w w4 := chain bX k4 (Nat.le_refl _)
  have hb4 : w4.heap[d]? = some (.cells (rdV (.slice (some ⟨g, 0, none⟩) 1 c) 1048576 false 0 dn cuts cnt) 47 (0, 0)) := (k5.block d hz).trans h.box
  have st : Stay (fun k => k = d) w4 (w4.setCell ⟨d, 1, none⟩ (.slice a 1 c')) := stayD _ _ _ _ _ (.refl _ _)
  have hq : ∀ o v, X.cell? ⟨w.heap.size, o, none⟩ = some v → (w4.setCell ⟨d, 1, none⟩ (.slice a 1 c')).cell? ⟨w.heap.size, o, none⟩ = some v := fun o v hv => by
    have e1 := cell_lat k4 hv
    rw [← e1]
    exact World.cell?_of_block (a := ⟨w.heap.size, o, none⟩) (st.block w.heap.size (by have := k4.size; omega) (by omega))
  have hne : ∀ k, (Value.slice a 1 c').ownBlock = some k → k ≠ d := fun k hk e => by
    have h1 := k2 k hk
    have h2 : X.heap.size ≤ k := h1
    omega
  refine ⟨frozen_of_row _ _ _ _ _ hb4, cell_lat k4 x1, ⟨hq 0 _ c0, hq 1 _ c1, hq 2 _ c2⟩, ⟨?_, row_kept k1 st hne⟩, (Stay.below k5).trans st, fun k hk => ?_⟩
  · rw [heap_setCell_same w4 d 1 _ _ _ hb4]; rfl
  · have h1 := k2 k hk
    have h2 : X.heap.size ≤ k := h1
    omega
set_option maxHeartbeats 8000000 in
set_option maxRecDepth 100000 in
theorem rappend1 {d : Nat} {fv : Value} {cuts cnt : Int} {dn : Bool} {u : Int} (s b : ByteArray) (w : World) (h : RD4 w d [⟨s, ⟨#[]⟩, u⟩] fv 1048576 false 0 dn cuts cnt) (hn : isNm s.data.toList = true) (hb : b.size ≤ 524288) (hc : 0 ≤ cnt ∧ cnt ≤ 1152921504606846976) :
    Calls Tryd.prog 9 #[Pt d, .string s, .string b] w fun e w' => e = .returned (.int .i64 0) ∧ (∃ a c, RD4 w' d [⟨s, b, u⟩] (.slice a 1 c) 1048576 false 0 dn cuts (cnt + 1) ∧ ∀ k, (Value.slice a 1 c).ownBlock = some k → w.heap.size ≤ k) ∧ Stay (fun k => k = d) w w' := by
  have h1 := rlook_any s w h (by simp)
  rw [fd_one s _ u hn] at h1
  obtain ⟨y0, y1, -, -, -, -, -⟩ := h.cell
  obtain ⟨g, c, rfl, z0, z1, z2⟩ := h.file 0 (by simp)
  simp only [List.getElem_cons_zero, Nat.zero_mul, Nat.zero_add, List.length_singleton] at z0 z1 z2 y1
  have hz : d < w.heap.size := World.block_lt_of_cell? w _ y0
  have hgz : g < w.heap.size := World.block_lt_of_cell? w _ z0
  obtain ⟨V, hV⟩ : ∃ V, V = w.alloc (.cells #[.string s, .string ⟨#[]⟩, .int .i64 u] 61) := ⟨_, rfl⟩
  have bV : Below w.heap.size w V := hV ▸ (Below.refl _ w).alloc (Nat.le_refl _) _
  have hbV : V.heap[w.heap.size]? = some (.cells #[.string s, .string ⟨#[]⟩, .int .i64 u] 61 (0, 0)) := hV ▸ heap_alloc_last w _
  have hVs : V.heap.size = w.heap.size + 1 := by rw [hV]; simp
  have hD : RD4 V d [⟨s, ⟨#[]⟩, u⟩] (.slice (some ⟨g, 0, none⟩) 1 c) 1048576 false 0 dn cuts cnt := ⟨(bV.block d hz).trans h.box, row_kept (F := fun _ => False) h.row (.below bV) (fun _ _ h => h)⟩
  have b0 : V.cell? ⟨w.heap.size, 0, none⟩ = some (.string s) := by rw [cell_of_row _ _ 0 _ _ (0, 0) hbV]; rfl
  have b1 : V.cell? ⟨w.heap.size, 1, none⟩ = some (.string ⟨#[]⟩) := by rw [cell_of_row _ _ 1 _ _ (0, 0) hbV]; rfl
  have b2 : V.cell? ⟨w.heap.size, 2, none⟩ = some (.int .i64 u) := by rw [cell_of_row _ _ 2 _ _ (0, 0) hbV]; rfl
  have hu := rused1 V.drew (⟨hD.box, row_kept (F := fun _ => False) hD.row (.below (b_drew V)) (fun _ _ h => h)⟩) (by show (0 : Nat) ≤ _; omega)
  simp only [ByteArray.size, Array.size] at hu
  have e1 : wrap64 (0 + (b.size : Int)) = (b.size : Int) := by unfold wrap64; omega
  have e2 : ¬ 268435456 < (b.size : Int) := by omega
  have e3 : ¬ 1048576 < (b.size : Int) := by omega
  have a0 := cell_lat bV y0
  have a1 := cell_lat bV y1
  have HH := Hid.mk (And.intro h (And.intro hn (And.intro hc (And.intro hV (And.intro bV (And.intro hbV hD))))))
  have HB := Hid.mk hb
  clear h hn hc hbV hD hb
  go_enter Tryd.func9, Tryd.ntmps9
  go_wp2_with fail
  refine h1.mono ?_
  clear h1
  rintro r w1 ⟨rfl, rfl⟩
  go_wp2_with fail
  clear y0 y1 z0 z1 z2 a1 b0 b1 b2
  rw [HH.out.2.2.2.1] at hu a0
  by_cases hb0 : b.size = 0
  · have g0 : ¬ 0 < (b.size : Int) := by omega
    go_region
    go_wp2_with fail
    rw [emp_app]
    obtain ⟨X, hX0⟩ : ∃ X, X = (w1.alloc (.cells #[.string s, .string b, .int .i64 u] 61)).drew := ⟨_, rfl⟩
    rw [← hX0]
    obtain ⟨hx, hw2, y1, b0, b1, b2, hdX⟩ := rapp_mid s b w1 HH.out.1 X hX0
    have HX := Hid.mk hx
    clear hX0 hx a0
    refine wp_region_held_drew (S := fun w' => w'.cell? ⟨w1.heap.size, 0, none⟩ = some (.string s) ∧ w'.cell? ⟨w1.heap.size, 1, none⟩ = some (.string b) ∧ w'.cell? ⟨w1.heap.size, 2, none⟩ = some (.int .i64 u)) (by kernel_rfl) ?_ (fun hHeld => ?_)
    · exact ⟨b0, b1, b2⟩
    refine wpAnyH_take (i := 0) (oi := { dst := some 54, op := Op.move (Operand.tmp 0), type := 24, pos := "kindredref4.go:268", after := #[], guard := none }) (v := ?vq0) rfl (by kernel_rfl) (by kernel_rfl) (by kernel_rfl) (fun _ _ _ h => h) (Or.inl ⟨by rfl, ?hq0⟩) (by assumption) ?rq0
    case hq0 => (intro w0 hSw; (try dsimp only at hSw); go_simp; first | done | (with_reducible rfl) | (rw [if_pos (by omega)]; try (with_reducible rfl)))
    simp only [Act.put, List.setIfInBounds_toArray, List.set_cons_zero, List.set_cons_succ]
    refine wpAnyH_take (i := 1) (oi := { dst := some 55, op := Op.move (Operand.tmp 0), type := 24, pos := "kindredref4.go:268", after := #[], guard := none }) (v := ?vq1) rfl (by kernel_rfl) (by kernel_rfl) (by kernel_rfl) (fun _ _ _ h => h) (Or.inl ⟨by rfl, ?hq1⟩) (by assumption) ?rq1
    case hq1 => (intro w0 hSw; (try dsimp only at hSw); go_simp; first | done | (with_reducible rfl) | (rw [if_pos (by omega)]; try (with_reducible rfl)))
    simp only [Act.put, List.setIfInBounds_toArray, List.set_cons_zero, List.set_cons_succ]
    refine wpAnyH_take (i := 2) (oi := { dst := some 56, op := Op.nilCheck (Operand.tmp 55), type := 0, pos := "kindredref4.go:268", after := #[{ on := 1, ground := Ground.data }], guard := none }) (v := ?vq2) rfl (by kernel_rfl) (by kernel_rfl) (by kernel_rfl) (fun _ _ _ h => h) (Or.inl ⟨by rfl, ?hq2⟩) (by assumption) ?rq2
    case hq2 => (intro w0 hSw; (try dsimp only at hSw); go_simp; first | done | (with_reducible rfl) | (rw [if_pos (by omega)]; try (with_reducible rfl)))
    simp only [Act.put, List.setIfInBounds_toArray, List.set_cons_zero, List.set_cons_succ]
    refine wpAnyH_take (i := 3) (oi := { dst := some 57, op := Op.fieldAddr 47 (Operand.tmp 56) 1, type := 0, pos := "kindredref4.go:268", after := #[{ on := 2, ground := Ground.data }], guard := none }) (v := ?vq3) rfl (by kernel_rfl) (by kernel_rfl) (by kernel_rfl) (fun _ _ _ h => h) (Or.inl ⟨by rfl, ?hq3⟩) (by assumption) ?rq3
    case hq3 => (intro w0 hSw; (try dsimp only at hSw); go_simp; first | done | (with_reducible rfl) | (rw [if_pos (by omega)]; try (with_reducible rfl)))
    simp only [Act.put, List.setIfInBounds_toArray, List.set_cons_zero, List.set_cons_succ]
    refine wpAnyH_take (i := 5) (oi := { dst := some 59, op := Op.load 61 (Operand.tmp 9), type := 61, pos := "kindredref4.go:268", after := #[], guard := none }) (v := ?vq5) rfl (by kernel_rfl) (by kernel_rfl) (by kernel_rfl) (fun _ _ _ h => h) (Or.inl ⟨by rfl, ?hq5⟩) (by assumption) ?rq5
    case hq5 => (intro w0 hSw; (try dsimp only at hSw); go_simp; first | done | (with_reducible rfl) | (rw [if_pos (by omega)]; try (with_reducible rfl)))
    simp only [Act.put, List.setIfInBounds_toArray, List.set_cons_zero, List.set_cons_succ]
    refine wpAnyH_ready (rs := [4]) (by kernel_rfl) (by simp) ?_
    refine AllReadyH.cons rfl (fun K hK => ?_) AllReadyH.nil
    go_simp
    refine hK.out _ _ ?_ (fun hHeld => ?_)
    · exact ⟨b0, b1, b2⟩
    clear hK K
    refine wpAnyH_ready (rs := [6]) (by kernel_rfl) (by simp) ?_
    refine AllReadyH.cons rfl (fun K hK => ?_) AllReadyH.nil
    go_simp
    go_wp2_with (go_at_call 23; refine hw2.mono ?_; clear hw2; rintro r w4 ⟨a, c', rfl, k1, k2, k3⟩)
    have q0 := cell_lat k3 b0
    have q1 := cell_lat k3 b1
    have q2 := cell_lat k3 b2
    refine hK.out _ _ ?_ (fun hHeld => ?_)
    · exact ⟨q0, q1, q2⟩
    clear hK K
    refine wpAnyH_take (i := 7) (oi := { dst := some 61, op := Op.nilCheck (Operand.tmp 54), type := 0, pos := "kindredref4.go:268", after := #[{ on := 0, ground := Ground.data }, { on := 0, ground := Ground.phase }, { on := 1, ground := Ground.phase }, { on := 2, ground := Ground.phase }, { on := 3, ground := Ground.phase }, { on := 4, ground := Ground.phase }, { on := 5, ground := Ground.phase }, { on := 6, ground := Ground.phase }], guard := none }) (v := ?vq7) rfl (by kernel_rfl) (by kernel_rfl) (by kernel_rfl) (fun _ _ _ h => h) (Or.inl ⟨by rfl, ?hq7⟩) (by assumption) ?rq7
    case hq7 => (intro w0 hSw; (try dsimp only at hSw); go_simp; first | done | (with_reducible rfl) | (rw [if_pos (by omega)]; try (with_reducible rfl)))
    simp only [Act.put, List.setIfInBounds_toArray, List.set_cons_zero, List.set_cons_succ]
    refine wpAnyH_take (i := 8) (oi := { dst := some 62, op := Op.fieldAddr 47 (Operand.tmp 61) 1, type := 0, pos := "kindredref4.go:268", after := #[{ on := 7, ground := Ground.data }, { on := 0, ground := Ground.phase }, { on := 1, ground := Ground.phase }, { on := 2, ground := Ground.phase }, { on := 3, ground := Ground.phase }, { on := 4, ground := Ground.phase }, { on := 5, ground := Ground.phase }, { on := 6, ground := Ground.phase }], guard := none }) (v := ?vq8) rfl (by kernel_rfl) (by kernel_rfl) (by kernel_rfl) (fun _ _ _ h => h) (Or.inl ⟨by rfl, ?hq8⟩) (by assumption) ?rq8
    case hq8 => (intro w0 hSw; (try dsimp only at hSw); go_simp; first | done | (with_reducible rfl) | (rw [if_pos (by omega)]; try (with_reducible rfl)))
    simp only [Act.put, List.setIfInBounds_toArray, List.set_cons_zero, List.set_cons_succ]
    refine wpAnyH_ready (rs := [9]) (by kernel_rfl) (by simp) ?_
    refine AllReadyH.cons rfl (fun K hK => ?_) AllReadyH.nil
    have KK := HX.out w4 a c' k1 k2 k3
    have f1 := KK.1
    have y1' := KK.2.1
    go_simp
    refine hK.out _ _ ?_ (fun hHeld => ?_)
    · exact KK.2.2.1
    clear hK K
    refine wpAnyH_done (by kernel_rfl) ?_ _
    have h5 := KK.2.2.2
    obtain ⟨W3, hW3⟩ : ∃ W3, W3 = w4.setCell ⟨d, 1, none⟩ (.slice a 1 c') := ⟨_, rfl⟩
    rw [← hW3] at h5 ⊢
    have h6 := racc0 W3 h5.1 HH.out.2.2.1
    have H5 := Hid.mk h5
    have hz3 : d < W3.heap.size := (Array.getElem?_eq_some_iff.1 h5.1.box).1
    clear KK h5 hW3 k1 k2 k3 q0 q1 q2 f1 y1' b0 b1 b2 y1 HX hdX
    go_wp2_with fail
    refine h6.mono ?_
    clear h6
    rintro r w5 ⟨rfl, hR, st⟩
    have HG := Hid.mk (And.intro hR st)
    clear hR st
    go_wp2
    go_ret
    exact ⟨rfl, ⟨a, c', HG.out.1, H5.out.2.2⟩, H5.out.2.1.trans HG.out.2⟩
  · have g0 : 0 < (b.size : Int) := by omega
    refine wp_region_held_drew (S := fun w' => w'.cell? ⟨d, 0, none⟩ = some (.int .i64 1048576)) (by kernel_rfl) ?_ (fun hHeld => ?_)
    · exact a0
    refine wpAnyH_take (i := 0) (oi := { dst := some 34, op := Op.move (Operand.tmp 2), type := 9, pos := "kindredref4.go:264", after := #[], guard := none }) (v := ?vp0) rfl (by kernel_rfl) (by kernel_rfl) (by kernel_rfl) (fun _ _ _ h => h) (Or.inl ⟨by rfl, ?hp0⟩) (by assumption) ?rp0
    case hp0 => (intro w0 hSw; (try dsimp only at hSw); go_simp; first | done | (with_reducible rfl) | (rw [if_pos (by omega)]; try (with_reducible rfl)))
    simp only [Act.put, List.setIfInBounds_toArray, List.set_cons_zero, List.set_cons_succ]
    refine wpAnyH_take (i := 1) (oi := { dst := some 35, op := Op.call { callee := Callee.builtin Builtin.len, args := #[Operand.tmp 34], argTypes := #[9] }, type := 3, pos := "kindredref4.go:264", after := #[{ on := 0, ground := Ground.data }], guard := none }) (v := ?vp1) rfl (by kernel_rfl) (by kernel_rfl) (by kernel_rfl) (fun _ _ _ h => h) (Or.inl ⟨by rfl, ?hp1⟩) (by assumption) ?rp1
    case hp1 => (intro w0 hSw; (try dsimp only at hSw); go_simp; first | done | (with_reducible rfl) | (rw [if_pos (by omega)]; try (with_reducible rfl)))
    simp only [Act.put, List.setIfInBounds_toArray, List.set_cons_zero, List.set_cons_succ]
    refine wpAnyH_take (i := 2) (oi := { dst := some 36, op := Op.binOp BinOp.gtr 3 (Operand.tmp 35) (Operand.const (Value.int IntKind.i64 0)) 3, type := 4, pos := "kindredref4.go:264", after := #[{ on := 1, ground := Ground.data }], guard := none }) (v := Value.bool true) rfl (by kernel_rfl) (by kernel_rfl) (by kernel_rfl) (fun _ _ _ h => h) (Or.inl ⟨by rfl, ?hp2⟩) (by assumption) ?rp2
    case hp2 => (intro w0 hSw; (try dsimp only at hSw); go_simp; first | done | omega | (simp [g0]; done) | (rw [decide_eq_true g0]; done) | (with_reducible rfl) | (rw [if_pos (by omega)]; try (with_reducible rfl)))
    simp only [Act.put, List.setIfInBounds_toArray, List.set_cons_zero, List.set_cons_succ]
    refine wpAnyH_take (i := 3) (oi := { dst := some 37, op := Op.move (Operand.tmp 36), type := 4, pos := "kindredref4.go:264", after := #[{ on := 2, ground := Ground.data }], guard := none }) (v := ?vp3) rfl (by kernel_rfl) (by kernel_rfl) (by kernel_rfl) (fun _ _ _ h => h) (Or.inl ⟨by rfl, ?hp3⟩) (by assumption) ?rp3
    case hp3 => (intro w0 hSw; (try dsimp only at hSw); go_simp; first | done | (with_reducible rfl) | (rw [if_pos (by omega)]; try (with_reducible rfl)))
    simp only [Act.put, List.setIfInBounds_toArray, List.set_cons_zero, List.set_cons_succ]
    refine wpAnyH_take (i := 4) (oi := { dst := some 38, op := Op.move (Operand.tmp 0), type := 24, pos := "kindredref4.go:264", after := #[{ on := 3, ground := Ground.guard }], guard := some (3, true) }) (v := ?vp4) rfl (by kernel_rfl) (by kernel_rfl) (by kernel_rfl) (fun _ _ _ h => h) (Or.inl ⟨by rfl, ?hp4⟩) (by assumption) ?rp4
    case hp4 => (intro w0 hSw; (try dsimp only at hSw); go_simp; first | done | (with_reducible rfl) | (rw [if_pos (by omega)]; try (with_reducible rfl)))
    simp only [Act.put, List.setIfInBounds_toArray, List.set_cons_zero, List.set_cons_succ]
    refine wpAnyH_take (i := 6) (oi := { dst := some 40, op := Op.move (Operand.tmp 2), type := 9, pos := "kindredref4.go:264", after := #[{ on := 3, ground := Ground.guard }], guard := some (3, true) }) (v := ?vp6) rfl (by kernel_rfl) (by kernel_rfl) (by kernel_rfl) (fun _ _ _ h => h) (Or.inl ⟨by rfl, ?hp6⟩) (by assumption) ?rp6
    case hp6 => (intro w0 hSw; (try dsimp only at hSw); go_simp; first | done | (with_reducible rfl) | (rw [if_pos (by omega)]; try (with_reducible rfl)))
    simp only [Act.put, List.setIfInBounds_toArray, List.set_cons_zero, List.set_cons_succ]
    refine wpAnyH_take (i := 7) (oi := { dst := some 41, op := Op.call { callee := Callee.builtin Builtin.len, args := #[Operand.tmp 40], argTypes := #[9] }, type := 3, pos := "kindredref4.go:264", after := #[{ on := 6, ground := Ground.data }, { on := 3, ground := Ground.guard }], guard := some (3, true) }) (v := ?vp7) rfl (by kernel_rfl) (by kernel_rfl) (by kernel_rfl) (fun _ _ _ h => h) (Or.inl ⟨by rfl, ?hp7⟩) (by assumption) ?rp7
    case hp7 => (intro w0 hSw; (try dsimp only at hSw); go_simp; first | done | (with_reducible rfl) | (rw [if_pos (by omega)]; try (with_reducible rfl)))
    simp only [Act.put, List.setIfInBounds_toArray, List.set_cons_zero, List.set_cons_succ]
    refine wpAnyH_take (i := 9) (oi := { dst := some 43, op := Op.move (Operand.tmp 0), type := 24, pos := "kindredref4.go:264", after := #[{ on := 3, ground := Ground.guard }], guard := some (3, true) }) (v := ?vp9) rfl (by kernel_rfl) (by kernel_rfl) (by kernel_rfl) (fun _ _ _ h => h) (Or.inl ⟨by rfl, ?hp9⟩) (by assumption) ?rp9
    case hp9 => (intro w0 hSw; (try dsimp only at hSw); go_simp; first | done | (with_reducible rfl) | (rw [if_pos (by omega)]; try (with_reducible rfl)))
    simp only [Act.put, List.setIfInBounds_toArray, List.set_cons_zero, List.set_cons_succ]
    refine wpAnyH_take (i := 10) (oi := { dst := some 44, op := Op.nilCheck (Operand.tmp 43), type := 0, pos := "kindredref4.go:264", after := #[{ on := 9, ground := Ground.data }, { on := 3, ground := Ground.guard }], guard := some (3, true) }) (v := ?vp10) rfl (by kernel_rfl) (by kernel_rfl) (by kernel_rfl) (fun _ _ _ h => h) (Or.inl ⟨by rfl, ?hp10⟩) (by assumption) ?rp10
    case hp10 => (intro w0 hSw; (try dsimp only at hSw); go_simp; first | done | (with_reducible rfl) | (rw [if_pos (by omega)]; try (with_reducible rfl)))
    simp only [Act.put, List.setIfInBounds_toArray, List.set_cons_zero, List.set_cons_succ]
    refine wpAnyH_take (i := 11) (oi := { dst := some 45, op := Op.fieldAddr 47 (Operand.tmp 44) 0, type := 0, pos := "kindredref4.go:264", after := #[{ on := 10, ground := Ground.data }, { on := 3, ground := Ground.guard }], guard := some (3, true) }) (v := ?vp11) rfl (by kernel_rfl) (by kernel_rfl) (by kernel_rfl) (fun _ _ _ h => h) (Or.inl ⟨by rfl, ?hp11⟩) (by assumption) ?rp11
    case hp11 => (intro w0 hSw; (try dsimp only at hSw); go_simp; first | done | (with_reducible rfl) | (rw [if_pos (by omega)]; try (with_reducible rfl)))
    simp only [Act.put, List.setIfInBounds_toArray, List.set_cons_zero, List.set_cons_succ]
    refine wpAnyH_take (i := 12) (oi := { dst := some 46, op := Op.load 3 (Operand.tmp 45), type := 3, pos := "kindredref4.go:264", after := #[{ on := 11, ground := Ground.data }, { on := 3, ground := Ground.guard }], guard := some (3, true) }) (v := ?vp12) rfl (by kernel_rfl) (by kernel_rfl) (by kernel_rfl) (fun _ _ _ h => h) (Or.inl ⟨by rfl, ?hp12⟩) (by assumption) ?rp12
    case hp12 => (intro w0 hSw; (try dsimp only at hSw); go_simp; first | done | (with_reducible rfl) | (rw [if_pos (by omega)]; try (with_reducible rfl)))
    simp only [Act.put, List.setIfInBounds_toArray, List.set_cons_zero, List.set_cons_succ]
    refine wpAnyH_ready (rs := [5]) (by kernel_rfl) (by simp) ?_
    refine AllReadyH.cons rfl (fun K hK => ?_) AllReadyH.nil
    go_simp
    go_wp2_with (go_at_call 24; refine hu.mono ?_; clear hu; rintro r w4 ⟨rfl, rfl⟩)
    refine hK.out _ _ ?_ (fun hHeld => ?_)
    · exact a0
    clear hK K
    refine wpAnyH_take (i := 8) (oi := { dst := some 42, op := Op.binOp BinOp.add 3 (Operand.tmp 39) (Operand.tmp 41) 3, type := 3, pos := "kindredref4.go:264", after := #[{ on := 5, ground := Ground.data }, { on := 7, ground := Ground.data }, { on := 3, ground := Ground.guard }], guard := some (3, true) }) (v := Value.int IntKind.i64 ((b.size : Nat) : Int)) rfl (by kernel_rfl) (by kernel_rfl) (by kernel_rfl) (fun _ _ _ h => h) (Or.inl ⟨by rfl, ?hp8⟩) (by assumption) ?rp8
    case hp8 => (intro w0 hSw; (try dsimp only at hSw); have hb9 := HB.out; go_simp; first | done | exact e1 | (rw [IntKind.wrap_i64]; omega) | (rw [e1]; done) | (simp [e1]; done) | omega | (with_reducible rfl) | (rw [if_pos (by omega)]; try (with_reducible rfl)))
    simp only [Act.put, List.setIfInBounds_toArray, List.set_cons_zero, List.set_cons_succ]
    refine wpAnyH_take (i := 13) (oi := { dst := some 47, op := Op.binOp BinOp.gtr 3 (Operand.tmp 42) (Operand.tmp 46) 3, type := 4, pos := "kindredref4.go:264", after := #[{ on := 8, ground := Ground.data }, { on := 12, ground := Ground.data }, { on := 3, ground := Ground.guard }], guard := some (3, true) }) (v := Value.bool false) rfl (by kernel_rfl) (by kernel_rfl) (by kernel_rfl) (fun _ _ _ h => h) (Or.inl ⟨by rfl, ?hp13⟩) (by assumption) ?rp13
    case hp13 => (intro w0 hSw; (try dsimp only at hSw); have hb9 := HB.out; go_simp; first | done | omega | (simp; omega) | (with_reducible rfl) | (rw [if_pos (by omega)]; try (with_reducible rfl)))
    simp only [Act.put, List.setIfInBounds_toArray, List.set_cons_zero, List.set_cons_succ]
    refine wpAnyH_take (i := 14) (oi := { dst := some 48, op := Op.pick (Operand.tmp 37) (Operand.tmp 47) (Operand.const (Value.bool false)), type := 4, pos := "kindredref4.go:264", after := #[{ on := 3, ground := Ground.data }, { on := 13, ground := Ground.data }], guard := none }) (v := ?vp14) rfl (by kernel_rfl) (by kernel_rfl) (by kernel_rfl) (fun _ _ _ h => h) (Or.inl ⟨by rfl, ?hp14⟩) (by assumption) ?rp14
    case hp14 => (intro w0 hSw; (try dsimp only at hSw); go_simp; first | done | (with_reducible rfl) | (rw [if_pos (by omega)]; try (with_reducible rfl)))
    simp only [Act.put, List.setIfInBounds_toArray, List.set_cons_zero, List.set_cons_succ]
    refine wpAnyH_done (by kernel_rfl) ?_ _
    go_wp2_with fail
    rw [emp_app]
    obtain ⟨X, hX0⟩ : ∃ X, X = (w1.alloc (.cells #[.string s, .string b, .int .i64 u] 61)).drew := ⟨_, rfl⟩
    rw [← hX0]
    obtain ⟨hx, hw2, y1, b0, b1, b2, hdX⟩ := rapp_mid s b w1 HH.out.1 X hX0
    have HX := Hid.mk hx
    clear hX0 hx a0
    refine wp_region_held_drew (S := fun w' => w'.cell? ⟨w1.heap.size, 0, none⟩ = some (.string s) ∧ w'.cell? ⟨w1.heap.size, 1, none⟩ = some (.string b) ∧ w'.cell? ⟨w1.heap.size, 2, none⟩ = some (.int .i64 u)) (by kernel_rfl) ?_ (fun hHeld => ?_)
    · exact ⟨b0, b1, b2⟩
    refine wpAnyH_take (i := 0) (oi := { dst := some 54, op := Op.move (Operand.tmp 0), type := 24, pos := "kindredref4.go:268", after := #[], guard := none }) (v := ?vs0) rfl (by kernel_rfl) (by kernel_rfl) (by kernel_rfl) (fun _ _ _ h => h) (Or.inl ⟨by rfl, ?hs0⟩) (by assumption) ?rs0
    case hs0 => (intro w0 hSw; (try dsimp only at hSw); go_simp; first | done | (with_reducible rfl) | (rw [if_pos (by omega)]; try (with_reducible rfl)))
    simp only [Act.put, List.setIfInBounds_toArray, List.set_cons_zero, List.set_cons_succ]
    refine wpAnyH_take (i := 1) (oi := { dst := some 55, op := Op.move (Operand.tmp 0), type := 24, pos := "kindredref4.go:268", after := #[], guard := none }) (v := ?vs1) rfl (by kernel_rfl) (by kernel_rfl) (by kernel_rfl) (fun _ _ _ h => h) (Or.inl ⟨by rfl, ?hs1⟩) (by assumption) ?rs1
    case hs1 => (intro w0 hSw; (try dsimp only at hSw); go_simp; first | done | (with_reducible rfl) | (rw [if_pos (by omega)]; try (with_reducible rfl)))
    simp only [Act.put, List.setIfInBounds_toArray, List.set_cons_zero, List.set_cons_succ]
    refine wpAnyH_take (i := 2) (oi := { dst := some 56, op := Op.nilCheck (Operand.tmp 55), type := 0, pos := "kindredref4.go:268", after := #[{ on := 1, ground := Ground.data }], guard := none }) (v := ?vs2) rfl (by kernel_rfl) (by kernel_rfl) (by kernel_rfl) (fun _ _ _ h => h) (Or.inl ⟨by rfl, ?hs2⟩) (by assumption) ?rs2
    case hs2 => (intro w0 hSw; (try dsimp only at hSw); go_simp; first | done | (with_reducible rfl) | (rw [if_pos (by omega)]; try (with_reducible rfl)))
    simp only [Act.put, List.setIfInBounds_toArray, List.set_cons_zero, List.set_cons_succ]
    refine wpAnyH_take (i := 3) (oi := { dst := some 57, op := Op.fieldAddr 47 (Operand.tmp 56) 1, type := 0, pos := "kindredref4.go:268", after := #[{ on := 2, ground := Ground.data }], guard := none }) (v := ?vs3) rfl (by kernel_rfl) (by kernel_rfl) (by kernel_rfl) (fun _ _ _ h => h) (Or.inl ⟨by rfl, ?hs3⟩) (by assumption) ?rs3
    case hs3 => (intro w0 hSw; (try dsimp only at hSw); go_simp; first | done | (with_reducible rfl) | (rw [if_pos (by omega)]; try (with_reducible rfl)))
    simp only [Act.put, List.setIfInBounds_toArray, List.set_cons_zero, List.set_cons_succ]
    refine wpAnyH_take (i := 5) (oi := { dst := some 59, op := Op.load 61 (Operand.tmp 9), type := 61, pos := "kindredref4.go:268", after := #[], guard := none }) (v := ?vs5) rfl (by kernel_rfl) (by kernel_rfl) (by kernel_rfl) (fun _ _ _ h => h) (Or.inl ⟨by rfl, ?hs5⟩) (by assumption) ?rs5
    case hs5 => (intro w0 hSw; (try dsimp only at hSw); go_simp; first | done | (with_reducible rfl) | (rw [if_pos (by omega)]; try (with_reducible rfl)))
    simp only [Act.put, List.setIfInBounds_toArray, List.set_cons_zero, List.set_cons_succ]
    refine wpAnyH_ready (rs := [4]) (by kernel_rfl) (by simp) ?_
    refine AllReadyH.cons rfl (fun K hK => ?_) AllReadyH.nil
    go_simp
    refine hK.out _ _ ?_ (fun hHeld => ?_)
    · exact ⟨b0, b1, b2⟩
    clear hK K
    refine wpAnyH_ready (rs := [6]) (by kernel_rfl) (by simp) ?_
    refine AllReadyH.cons rfl (fun K hK => ?_) AllReadyH.nil
    go_simp
    go_wp2_with (go_at_call 23; refine hw2.mono ?_; clear hw2; rintro r w4 ⟨a, c', rfl, k1, k2, k3⟩)
    have q0 := cell_lat k3 b0
    have q1 := cell_lat k3 b1
    have q2 := cell_lat k3 b2
    refine hK.out _ _ ?_ (fun hHeld => ?_)
    · exact ⟨q0, q1, q2⟩
    clear hK K
    refine wpAnyH_take (i := 7) (oi := { dst := some 61, op := Op.nilCheck (Operand.tmp 54), type := 0, pos := "kindredref4.go:268", after := #[{ on := 0, ground := Ground.data }, { on := 0, ground := Ground.phase }, { on := 1, ground := Ground.phase }, { on := 2, ground := Ground.phase }, { on := 3, ground := Ground.phase }, { on := 4, ground := Ground.phase }, { on := 5, ground := Ground.phase }, { on := 6, ground := Ground.phase }], guard := none }) (v := ?vs7) rfl (by kernel_rfl) (by kernel_rfl) (by kernel_rfl) (fun _ _ _ h => h) (Or.inl ⟨by rfl, ?hs7⟩) (by assumption) ?rs7
    case hs7 => (intro w0 hSw; (try dsimp only at hSw); go_simp; first | done | (with_reducible rfl) | (rw [if_pos (by omega)]; try (with_reducible rfl)))
    simp only [Act.put, List.setIfInBounds_toArray, List.set_cons_zero, List.set_cons_succ]
    refine wpAnyH_take (i := 8) (oi := { dst := some 62, op := Op.fieldAddr 47 (Operand.tmp 61) 1, type := 0, pos := "kindredref4.go:268", after := #[{ on := 7, ground := Ground.data }, { on := 0, ground := Ground.phase }, { on := 1, ground := Ground.phase }, { on := 2, ground := Ground.phase }, { on := 3, ground := Ground.phase }, { on := 4, ground := Ground.phase }, { on := 5, ground := Ground.phase }, { on := 6, ground := Ground.phase }], guard := none }) (v := ?vs8) rfl (by kernel_rfl) (by kernel_rfl) (by kernel_rfl) (fun _ _ _ h => h) (Or.inl ⟨by rfl, ?hs8⟩) (by assumption) ?rs8
    case hs8 => (intro w0 hSw; (try dsimp only at hSw); go_simp; first | done | (with_reducible rfl) | (rw [if_pos (by omega)]; try (with_reducible rfl)))
    simp only [Act.put, List.setIfInBounds_toArray, List.set_cons_zero, List.set_cons_succ]
    refine wpAnyH_ready (rs := [9]) (by kernel_rfl) (by simp) ?_
    refine AllReadyH.cons rfl (fun K hK => ?_) AllReadyH.nil
    have KK := HX.out w4 a c' k1 k2 k3
    have f1 := KK.1
    have y1' := KK.2.1
    go_simp
    refine hK.out _ _ ?_ (fun hHeld => ?_)
    · exact KK.2.2.1
    clear hK K
    refine wpAnyH_done (by kernel_rfl) ?_ _
    have h5 := KK.2.2.2
    obtain ⟨W3, hW3⟩ : ∃ W3, W3 = w4.setCell ⟨d, 1, none⟩ (.slice a 1 c') := ⟨_, rfl⟩
    rw [← hW3] at h5 ⊢
    have h6 := racc0 W3 h5.1 HH.out.2.2.1
    have H5 := Hid.mk h5
    have hz3 : d < W3.heap.size := (Array.getElem?_eq_some_iff.1 h5.1.box).1
    clear KK h5 hW3 k1 k2 k3 q0 q1 q2 f1 y1' b0 b1 b2 y1 HX hdX
    go_wp2_with fail
    refine h6.mono ?_
    clear h6
    rintro r w5 ⟨rfl, hR, st⟩
    have HG := Hid.mk (And.intro hR st)
    clear hR st
    go_wp2
    go_ret
    exact ⟨rfl, ⟨a, c', HG.out.1, H5.out.2.2⟩, H5.out.2.1.trans HG.out.2⟩
end Go.Proofs.YtjkhhjboejkafaaDoor.Dk
