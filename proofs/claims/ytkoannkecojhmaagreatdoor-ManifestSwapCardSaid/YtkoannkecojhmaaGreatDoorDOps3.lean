/-
  DERIVED. Rename and Names, each whole.
-/
import Derived.Test.YtkoannkecojhmaaGreatDoorDOps2
import Derived.Test.YtkoannkecojhmaaGreatDoorDSorted
set_option linter.unusedVariables false
set_option linter.unusedSimpArgs false
set_option linter.unnecessarySimpa false
namespace Go.Proofs.YtkoannkecojhmaaGreatDoor
open Go.RowKit Go.Maps Go.Proofs.DiskMath
set_option maxHeartbeats 4000000 in
set_option maxRecDepth 100000 in
theorem rename_any {p mb : Nat} {es : List Ent} {c : Ctl} (s t : ByteArray) (w : World) (h : DK w p mb es c) (R : Ending → World → Prop)
    (h1 : ckE c t.data.toList ≠ 0 → ∀ w', Step w w' p mb es es c → R (.returned (.int .i64 (ckE c t.data.toList))) w')
    (h2 : ckE c t.data.toList = 0 → fdE es c s.data.toList ≠ 0 → ∀ w', Step w w' p mb es es c → R (.returned (.int .i64 (fdE es c s.data.toList))) w')
    (h3 : ∀ e, findE es s.data.toList = some e → fdE es c s.data.toList = 0 → ckE c t.data.toList = 0 → doneC c = true → ∀ w', Step w w' p mb es (renE es e t.data.toList) (tick c) → R (.returned (.int .i64 (okE c))) w')
    (h4 : ∀ e, findE es s.data.toList = some e → fdE es c s.data.toList = 0 → ckE c t.data.toList = 0 → doneC c = false → ∀ w', Step w w' p mb es es (tick c) → R (.returned (.int .i64 (okE c))) w') :
    Calls Tryz.prog 36 #[Pt p, .string s, .string t] w R := by
  obtain ⟨W0, hW0⟩ : ∃ W0, W0 = ((w.alloc (.cells #[Pt p] 33)).alloc (.cells #[.string s] 9)).alloc (.cells #[.string t] 9) := ⟨_, rfl⟩
  have hb0 : Below w.heap.size w W0 := by rw [hW0]; exact (((Below.refl _ w).alloc (Nat.le_refl _) _).alloc (by simp) _).alloc (by simp; omega) _
  have d0 := h.below hb0
  have hkt := check_any t W0 d0
  have hk := find_any s W0 d0
  have hsz0 : W0.heap.size = w.heap.size + 3 := by rw [hW0]; simp
  have q1 : W0.cell? ⟨w.heap.size, 0, none⟩ = some (Pt p) := by rw [hW0]; exact cell_alloc (cell_alloc (cell_new w (Pt p) 33) _) _
  have q2 : W0.cell? ⟨w.heap.size + 1, 0, none⟩ = some (.string s) := by
    have := cell_alloc (cell_new (w.alloc (.cells #[Pt p] 33)) (.string s) 9) (.cells #[.string t] 9)
    rw [hW0]; simpa using this
  have q3 : W0.cell? ⟨w.heap.size + 2, 0, none⟩ = some (.string t) := by
    have := cell_new ((w.alloc (.cells #[Pt p] 33)).alloc (.cells #[.string s] 9)) (.string t) 9
    rw [hW0]; simpa using this
  by_cases hct : ckE c t.data.toList = 0
  · rw [hct] at hkt
    obtain ⟨-, hto, htsz⟩ := ck_size hct
    by_cases hc : fdE es c s.data.toList = 0
    · obtain ⟨e, hf, he, hnm, -, -, hsz, hP⟩ := find_some hc
      rw [hP, hc] at hk
      obtain ⟨W1, hW1⟩ : ∃ W1, W1 = W0.alloc (.cells #[Pt e.fb] 86) := ⟨_, rfl⟩
      have hb1 : Below w.heap.size w W1 := by rw [hW1]; exact hb0.alloc hb0.size _
      have d1 := h.below hb1
      have k1 : W1.cell? ⟨w.heap.size, 0, none⟩ = some (Pt p) := by rw [hW1]; exact cell_alloc q1 _
      have k2 : W1.cell? ⟨w.heap.size + 1, 0, none⟩ = some (.string s) := by rw [hW1]; exact cell_alloc q2 _
      have k3 : W1.cell? ⟨w.heap.size + 2, 0, none⟩ = some (.string t) := by rw [hW1]; exact cell_alloc q3 _
      have k4 : W1.cell? ⟨w.heap.size + 3, 0, none⟩ = some (Pt e.fb) := by have := cell_new W0 (Pt e.fb) 86; rw [hW1, ← hsz0]; exact this
      obtain ⟨-, -, -, -, -, p5, -, -⟩ := d1.cell
      obtain ⟨x, hx⟩ : ∃ x, x = okE c := ⟨_, rfl⟩
      have hR3 := h3 e hf hc hct
      have hR4 := h4 e hf hc hct
      rw [← hx] at hR3 hR4
      have hR := Hid.mk (And.intro hR3 hR4)
      have hWr := write_ok W1.drew (dk_drew d1) c.dn 76 #[Pt w.heap.size, Pt (w.heap.size + 1), Pt (w.heap.size + 2), Pt (w.heap.size + 3)] (fun W => by kernel_rfl)
        (fun W => (doneC c = true ∧ Step w W p mb es (renE es e t.data.toList) (tick c)) ∨ (doneC c = false ∧ Step w W p mb es es (tick c)))
        (fun hl W dW sW0 => by
          have sW := undrew sW0
          have nf : ∀ k, k = w.heap.size ∨ k = w.heap.size + 2 ∨ k = w.heap.size + 3 → ¬ Foot p mb es k := fun k hk hF => by have := h.lt hF; omega
          refine (rename1_any e s t w.heap.size (w.heap.size + 1) (w.heap.size + 2) (w.heap.size + 3) W dW he hsz hnm htsz hto (box_kept h sW _ _ (by omega) k1) (box_kept h sW _ _ (by omega) k4) (box_kept h sW _ _ (by omega) k2) (box_kept h sW _ _ (by omega) k3) nf).mono ?_
          rintro r w' ⟨rfl, dk, st⟩
          refine ⟨rfl, .inl ⟨done_yes hl, dk, ((Stay.below hb1).trans (sW.mono fun k _ hk => hk ▸ Foot.p)).trans (st.mono fun k _ hk => ?_), fun k hk => .inl ?_⟩⟩
          · rcases hk with rfl | rfl
            · exact Foot.p
            · exact .inr (.inl rfl)
          · rcases hk with rfl | rfl | ⟨y, hy, hk⟩
            · exact Foot.p
            · exact .inr (.inl rfl)
            · rcases renE_mem hy with rfl | ⟨hy, _⟩
              · exact Foot.e he hk
              · exact Foot.e hy hk)
        (fun hd hl W dW sW0 => .inr ⟨done_no hd hl, step_p dW hb1 (undrew sW0)⟩)
        (fun W hQ => by rcases hQ with ⟨_, hQ⟩ | ⟨_, hQ⟩ <;> exact hQ.dk.cell.2.2.2.1) x hx
      have hmf := hmf
      clear h1 h2 h3 h4 hf q1 q2 q3 hR3 hR4 hx hnm
      rw [hW0] at hk hkt
      go_enter Tryz.func36, Tryz.ntmps36
      go_wp2_with fail
      refine hkt.mono ?_
      rintro r w' ⟨rfl, rfl⟩
      go_wp2_with fail
      refine hk.mono ?_
      rintro r w' ⟨rfl, rfl⟩
      go_wp2
      rw [← hW0, ← hW1]
      clear hW1 hW0
      go_region_with (go_at_call 70; refine hWr.mono ?_; rintro r w2 ⟨rfl, q2⟩)
      all_goals
        go_wp2
        try go_ret
        rcases q2 with ⟨hd, q2⟩ | ⟨hd, q2⟩
        · exact hR.out.1 hd _ q2
        · exact hR.out.2 hd _ q2
    · rw [find_none hc] at hk
      have hR0 := h2 hct hc
      have hb1 : Below w.heap.size w (W0.alloc (.cells #[.pointer none] 86)) := hb0.alloc hb0.size _
      have hR := Hid.mk (hR0 _ (step_alloc h hb1))
      rw [hW0] at hR hk hkt
      generalize fdE es c s.data.toList = x at *
      clear h1 h2 h3 h4 hR0 q1 q2 q3
      go_enter Tryz.func36, Tryz.ntmps36
      go_wp2_with fail
      refine hkt.mono ?_
      rintro r w' ⟨rfl, rfl⟩
      go_wp2_with fail
      refine hk.mono ?_
      rintro r w' ⟨rfl, rfl⟩
      go_wp2
      exact hR.out
  · have hR := Hid.mk (h1 hct _ (step_alloc h hb0))
    rw [hW0] at hR hkt
    generalize ckE c t.data.toList = x at *
    clear h1 h2 h3 h4 q1 q2 q3
    go_enter Tryz.func36, Tryz.ntmps36
    go_wp2_with fail
    refine hkt.mono ?_
    rintro r w' ⟨rfl, rfl⟩
    go_wp2
    exact hR.out
set_option maxHeartbeats 4000000 in
set_option maxRecDepth 100000 in
theorem names_any {p mb : Nat} {es : List Ent} {c : Ctl} (w : World) (h : DK w p mb es c) (R : Ending → World → Prop) (h0 : c.off = true → R (.returned (.slice none 0 0)) w)
    (h1 : c.off = false → ∀ g cap w', w'.ownsRow w.heap.size 9 1 (.slice (some ⟨g, 0, none⟩) es.length cap) es.length ((es.map Ent.nm).map encStr) → Below w.heap.size w w' → R (.returned (.slice (some ⟨g, 0, none⟩) es.length cap)) w') :
    Calls Tryz.prog 13 #[Pt p] w R := by
  have hk := down_any w h
  cases ho : c.off
  · rw [ho] at hk
    have HR := Hid.mk (h1 ho)
    clear h0 h1
    go_enter Tryz.func13, Tryz.ntmps13
    go_wp2_with fail
    refine hk.mono ?_
    rintro r w' ⟨rfl, rfl⟩
    go_wp2_with fail
    refine sorted_any _ h _ ?_
    intro g cap w5 hro b5
    have hR := Hid.mk (HR.out g cap w5 hro b5)
    clear hro
    go_wp2
    exact hR.out
  · rw [ho] at hk
    have hR := Hid.mk (h0 ho)
    clear h0 h1
    go_enter Tryz.func13, Tryz.ntmps13
    go_wp2_with fail
    refine hk.mono ?_
    rintro r w' ⟨rfl, rfl⟩
    go_wp2
    exact hR.out
end Go.Proofs.YtkoannkecojhmaaGreatDoor
