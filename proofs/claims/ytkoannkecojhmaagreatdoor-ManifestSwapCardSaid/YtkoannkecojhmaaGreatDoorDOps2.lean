/-
  DERIVED. Cut, Delete, Create, Rename, Read, each whole.
-/
import Derived.Test.YtkoannkecojhmaaGreatDoorDOps
import Derived.Test.YtkoannkecojhmaaGreatDoorDRename
set_option linter.unusedVariables false
set_option linter.unusedSimpArgs false
set_option linter.unnecessarySimpa false
namespace Go.Proofs.YtkoannkecojhmaaGreatDoor
open Go.RowKit Go.Maps Go.Proofs.DiskMath
/-- Is a write with names done? -/
def doneC (c : Ctl) : Bool := c.dn || !(c.left == 1)
theorem done_yes {c : Ctl} (h : c.dn = true ∨ (c.left == 1) = false) : doneC c = true := by
  unfold doneC; rcases h with h | h <;> rw [h] <;> simp
theorem done_no {c : Ctl} (h : c.dn = false) (h2 : (c.left == 1) = true) : doneC c = false := by
  unfold doneC; rw [h, h2]; rfl
theorem dk_drew {w : World} {p mb : Nat} {es : List Ent} {c : Ctl} (h : DK w p mb es c) : DK w.drew p mb es c := h.below ⟨rfl, rfl, rfl, Nat.le_refl _, fun _ _ => rfl⟩
theorem step_p {w w1 W : World} {p mb : Nat} {es : List Ent} {c : Ctl} (dW : DK W p mb es c) (s1 : Below w.heap.size w w1) (sW : Stay (· = p) w1 W) : Step w W p mb es es c :=
  ⟨dW, (Stay.below s1).trans (sW.mono fun k _ hk => hk ▸ Foot.p), fun k hk => .inl hk⟩
/-- The boxes of a call stand above the disk. -/
theorem box_kept {w W1 W : World} {p mb : Nat} {es : List Ent} {c : Ctl} (h : DK w p mb es c) (sW : Stay (· = p) W1 W) (k : Nat) (v : Value) (hk : w.heap.size ≤ k) (hv : W1.cell? ⟨k, 0, none⟩ = some v) : W.cell? ⟨k, 0, none⟩ = some v := by
  have lp := h.lt (k := p) (.inl rfl)
  rw [World.cell?_of_block (sW.block k (World.block_lt_of_cell? W1 _ hv) (fun e1 => by omega))]; exact hv
set_option maxHeartbeats 4000000 in
set_option maxRecDepth 100000 in
theorem delete_any {p mb : Nat} {es : List Ent} {c : Ctl} (s : ByteArray) (w : World) (h : DK w p mb es c) (R : Ending → World → Prop)
    (h1 : fdE es c s.data.toList ≠ 0 → ∀ w', Step w w' p mb es es c → R (.returned (.int .i64 (fdE es c s.data.toList))) w')
    (h3 : ∀ e, findE es s.data.toList = some e → fdE es c s.data.toList = 0 → doneC c = true → ∀ w', Step w w' p mb es (delE es e.nm) (tick c) → R (.returned (.int .i64 (okE c))) w')
    (h4 : ∀ e, findE es s.data.toList = some e → fdE es c s.data.toList = 0 → doneC c = false → ∀ w', Step w w' p mb es es (tick c) → R (.returned (.int .i64 (okE c))) w') :
    Calls Tryz.prog 68 #[Pt p, .string s] w R := by
  obtain ⟨W0, hW0⟩ : ∃ W0, W0 = (w.alloc (.cells #[Pt p] 33)).alloc (.cells #[.string s] 9) := ⟨_, rfl⟩
  have hb0 : Below w.heap.size w W0 := by rw [hW0]; exact ((Below.refl _ w).alloc (Nat.le_refl _) _).alloc (by simp) _
  have d0 := h.below hb0
  have hk := find_any s W0 d0
  have hsz0 : W0.heap.size = w.heap.size + 2 := by rw [hW0]; simp
  have q1 : W0.cell? ⟨w.heap.size, 0, none⟩ = some (Pt p) := by rw [hW0]; exact cell_alloc (cell_new w (Pt p) 33) _
  have q2 : W0.cell? ⟨w.heap.size + 1, 0, none⟩ = some (.string s) := by
    have := cell_new (w.alloc (.cells #[Pt p] 33)) (.string s) 9
    rw [hW0]; simpa using this
  by_cases hc : fdE es c s.data.toList = 0
  · obtain ⟨e, hf, he, hnm, -, -, hsz, hP⟩ := find_some hc
    rw [hP, hc] at hk
    obtain ⟨W1, hW1⟩ : ∃ W1, W1 = W0.alloc (.cells #[Pt e.fb] 86) := ⟨_, rfl⟩
    have hb1 : Below w.heap.size w W1 := by rw [hW1]; exact hb0.alloc hb0.size _
    have d1 := h.below hb1
    have k1 : W1.cell? ⟨w.heap.size, 0, none⟩ = some (Pt p) := by rw [hW1]; exact cell_alloc q1 _
    have k2 : W1.cell? ⟨w.heap.size + 1, 0, none⟩ = some (.string s) := by rw [hW1]; exact cell_alloc q2 _
    have k3 : W1.cell? ⟨w.heap.size + 2, 0, none⟩ = some (Pt e.fb) := by have := cell_new W0 (Pt e.fb) 86; rw [hW1, ← hsz0]; exact this
    obtain ⟨-, -, -, -, -, p5, -, -⟩ := d1.cell
    obtain ⟨x, hx⟩ : ∃ x, x = okE c := ⟨_, rfl⟩
    have hR3 := h3 e hf hc
    have hR4 := h4 e hf hc
    rw [← hx] at hR3 hR4
    have hR := Hid.mk (And.intro hR3 hR4)
    have hWr := write_ok W1.drew (dk_drew d1) c.dn 82 #[Pt w.heap.size, Pt (w.heap.size + 1), Pt (w.heap.size + 2)] (fun W => by kernel_rfl)
      (fun W => (doneC c = true ∧ Step w W p mb es (delE es e.nm) (tick c)) ∨ (doneC c = false ∧ Step w W p mb es es (tick c)))
      (fun hl W dW sW0 => by
        have sW := undrew sW0
        refine (delete1_any e s w.heap.size (w.heap.size + 1) (w.heap.size + 2) W dW he hsz hnm (box_kept h sW _ _ (by omega) k1) (box_kept h sW _ _ (by omega) k3) (box_kept h sW _ _ (by omega) k2)).mono ?_
        rintro r w' ⟨rfl, dk, st⟩
        refine ⟨rfl, .inl ⟨done_yes hl, dk, ((Stay.below hb1).trans (sW.mono fun k _ hk => hk ▸ Foot.p)).trans (st.mono fun k _ hk => ?_), fun k hk => .inl ?_⟩⟩
        · rcases hk with rfl | rfl
          · exact Foot.p
          · exact .inr (.inl rfl)
        · rcases hk with rfl | rfl | ⟨y, hy, hk⟩
          · exact Foot.p
          · exact .inr (.inl rfl)
          · exact Foot.e (delE_mem.1 hy).1 hk)
      (fun hd hl W dW sW0 => .inr ⟨done_no hd hl, step_p dW hb1 (undrew sW0)⟩)
      (fun W hQ => by rcases hQ with ⟨_, hQ⟩ | ⟨_, hQ⟩ <;> exact hQ.dk.cell.2.2.2.1) x hx
    have hmf := hmf
    clear h1 h3 h4 hf q1 q2 hR3 hR4 hx hnm
    rw [hW0] at hk
    go_enter Tryz.func68, Tryz.ntmps68
    go_wp2_with fail
    refine hk.mono ?_
    rintro r w' ⟨rfl, rfl⟩
    go_wp2
    rw [← hW0, ← hW1]
    clear hW1 hW0
    go_region_with (go_at_call 70; refine hWr.mono ?_; rintro r w2 ⟨rfl, q2⟩)
    all_goals
      go_wp2
      try go_ret
      rcases q2 with ⟨hd, q2⟩ | ⟨hd, q2⟩
      · exact hR.out.1 hd _ q2
      · exact hR.out.2 hd _ q2
  · rw [find_none hc] at hk
    have hR0 := h1 hc
    have hb1 : Below w.heap.size w (W0.alloc (.cells #[.pointer none] 86)) := hb0.alloc hb0.size _
    have hR := Hid.mk (hR0 _ (step_alloc h hb1))
    rw [hW0] at hR hk
    generalize fdE es c s.data.toList = x at *
    clear h1 h3 h4 hR0 q1 q2
    go_enter Tryz.func68, Tryz.ntmps68
    go_wp2_with fail
    refine hk.mono ?_
    rintro r w' ⟨rfl, rfl⟩
    go_wp2
    exact hR.out
set_option maxHeartbeats 4000000 in
set_option maxRecDepth 100000 in
theorem create_any {p mb : Nat} {es : List Ent} {c : Ctl} (s : ByteArray) (w : World) (h : DK w p mb es c) (R : Ending → World → Prop)
    (h1 : ckE c s.data.toList ≠ 0 → ∀ w', Step w w' p mb es es c → R (.returned (.int .i64 (ckE c s.data.toList))) w')
    (h2 : ∀ e, ckE c s.data.toList = 0 → findE es s.data.toList = some e → ∀ w', Step w w' p mb es es c → R (.returned (.int .i64 41)) w')
    (h5 : ckE c s.data.toList = 0 → findE es s.data.toList = none → 4096 ≤ es.length → ∀ w', Step w w' p mb es es c → R (.returned (.int .i64 43)) w')
    (h3 : ckE c s.data.toList = 0 → findE es s.data.toList = none → es.length < 4096 → doneC c = true → ∀ w' fb, Step w w' p mb es (insE (newE s.data.toList fb) es) (tick c) → R (.returned (.int .i64 (okE c))) w')
    (h4 : ckE c s.data.toList = 0 → findE es s.data.toList = none → es.length < 4096 → doneC c = false → ∀ w', Step w w' p mb es es (tick c) → R (.returned (.int .i64 (okE c))) w') :
    Calls Tryz.prog 30 #[Pt p, .string s] w R := by
  obtain ⟨W1, hW1⟩ : ∃ W1, W1 = (w.alloc (.cells #[Pt p] 33)).alloc (.cells #[.string s] 9) := ⟨_, rfl⟩
  have hb1 : Below w.heap.size w W1 := by rw [hW1]; exact ((Below.refl _ w).alloc (Nat.le_refl _) _).alloc (by simp) _
  have d1 := h.below hb1
  have hk := check_any s W1 d1
  have k1 : W1.cell? ⟨w.heap.size, 0, none⟩ = some (Pt p) := by rw [hW1]; exact cell_alloc (cell_new w (Pt p) 33) _
  have k2 : W1.cell? ⟨w.heap.size + 1, 0, none⟩ = some (.string s) := by
    have := cell_new (w.alloc (.cells #[Pt p] 33)) (.string s) 9
    rw [hW1]; simpa using this
  obtain ⟨p0, -, -, -, -, p5, -, -⟩ := d1.cell
  by_cases hc : ckE c s.data.toList = 0
  · obtain ⟨-, hnm, hsz⟩ := ck_size hc
    rw [hc] at hk
    have hl := (dk_drew d1).look s (by unfold maxLen; omega)
    cases hf : findE es s.data.toList with
    | some e =>
      rw [show ptrOf es s.data.toList = Pt e.fb by simp [ptrOf, hf]] at hl
      have hR := Hid.mk (h2 e hc hf W1.drew (step_alloc h (hb1.drew)))
      clear h1 h2 h3 h4 h5 hf
      rw [hW1] at hk
      go_enter Tryz.func30, Tryz.ntmps30
      go_wp2_with fail
      refine hk.mono ?_
      rintro r w' ⟨rfl, rfl⟩
      go_wp2
      rw [← hW1]
      clear hW1
      go_region
      go_wp2
      exact hR.out
    | none =>
      rw [show ptrOf es s.data.toList = .pointer none by simp [ptrOf, hf]] at hl
      have hlen := (dk_drew d1).hm.len Tryz.underlying73 3
      rw [dmap_size] at hlen
      by_cases hm : es.length < 4096
      · have g1 : ¬ (4096 ≤ (es.length : Int)) := by omega
        obtain ⟨x, hx⟩ : ∃ x, x = okE c := ⟨_, rfl⟩
        have hR3 := h3 hc hf hm
        have hR4 := h4 hc hf hm
        rw [← hx] at hR3 hR4
        have hR := Hid.mk (And.intro hR3 hR4)
        have hWr := write_ok W1.drew.drew (dk_drew (dk_drew d1)) c.dn 71 #[Pt w.heap.size, Pt (w.heap.size + 1)] (fun W => by kernel_rfl)
          (fun W => (doneC c = true ∧ ∃ fb, Step w W p mb es (insE (newE s.data.toList fb) es) (tick c)) ∨ (doneC c = false ∧ Step w W p mb es es (tick c)))
          (fun hl W dW sW0 => by
            have sW := undrew (undrew sW0)
            refine (create1_any s w.heap.size (w.heap.size + 1) W dW (box_kept h sW _ _ (by omega) k1) (box_kept h sW _ _ (by omega) k2) hf hsz hnm hm).mono ?_
            rintro r w' ⟨rfl, fb, hfb, dk, st⟩
            have hs1 := hb1.size
            have hs2 := sW.size
            refine ⟨rfl, .inl ⟨done_yes hl, fb, dk, ((Stay.below hb1).trans (sW.mono fun k _ hk => hk ▸ Foot.p)).trans (st.mono fun k _ hk => .inr (.inl hk)), fun k hk => ?_⟩⟩
            rcases hk with rfl | rfl | ⟨y, hy, hk⟩
            · exact .inl Foot.p
            · exact .inl (.inr (.inl rfl))
            · rcases insE_mem.1 hy with rfl | hy
              · rcases hk with rfl | hk
                · exact .inr (by omega)
                · cases hk
              · exact .inl (Foot.e hy hk))
          (fun hd hl W dW sW0 => .inr ⟨done_no hd hl, step_p dW hb1 (undrew (undrew sW0))⟩)
          (fun W hQ => by rcases hQ with ⟨_, fb, hQ⟩ | ⟨_, hQ⟩ <;> exact hQ.dk.cell.2.2.2.1) x hx
        have hmf := hmf
        clear h1 h2 h3 h4 h5 hf hR3 hR4 hx
        rw [hW1] at hk
        go_enter Tryz.func30, Tryz.ntmps30
        go_wp2_with fail
        refine hk.mono ?_
        rintro r w' ⟨rfl, rfl⟩
        go_wp2
        rw [← hW1]
        clear hW1
        go_region
        go_wp2
        go_region_with (go_at_call 70; refine hWr.mono ?_; rintro r w2 ⟨rfl, q2⟩)
        all_goals
          go_wp2
          try go_ret
          rcases q2 with ⟨hd, fb, q2⟩ | ⟨hd, q2⟩
          · exact hR.out.1 hd _ _ q2
          · exact hR.out.2 hd _ q2
      · have g1 : 4096 ≤ (es.length : Int) := by omega
        have hR := Hid.mk (h5 hc hf (by omega) W1.drew (step_alloc h (hb1.drew)))
        clear h1 h2 h3 h4 h5 hf
        rw [hW1] at hk
        go_enter Tryz.func30, Tryz.ntmps30
        go_wp2_with fail
        refine hk.mono ?_
        rintro r w' ⟨rfl, rfl⟩
        go_wp2
        rw [← hW1]
        clear hW1
        go_region
        go_wp2
        exact hR.out
  · have hR := Hid.mk (h1 hc _ (step_alloc h hb1))
    rw [hW1] at hR hk
    generalize ckE c s.data.toList = x at *
    clear h1 h2 h3 h4 h5 k1 k2 p0 p5
    go_enter Tryz.func30, Tryz.ntmps30
    go_wp2_with fail
    refine hk.mono ?_
    rintro r w' ⟨rfl, rfl⟩
    go_wp2
    exact hR.out
end Go.Proofs.YtkoannkecojhmaaGreatDoor
