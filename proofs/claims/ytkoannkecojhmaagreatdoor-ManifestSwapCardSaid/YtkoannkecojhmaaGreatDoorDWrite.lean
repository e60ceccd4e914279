/-
  DERIVED. The one place where the power goes.
-/
import Derived.Test.YtkoannkecojhmaaGreatDoorDName
namespace Go.Proofs.YtkoannkecojhmaaGreatDoor
open Go.RowKit Go.Maps Go.Proofs.DiskMath
theorem map_block {w : World} {mb n : Nat} {D : DataW Unit} (h : w.ownsMap Tryz.prog 9 ptrE mb n D) : ∃ es cl, w.heap[mb]? = some (.map es cl) := by
  obtain ⟨es, cl, hb, _⟩ := h; exact ⟨es, cl, hb⟩
theorem DK.p_mb {w : World} {p mb : Nat} {es : List Ent} {c : Ctl} (h : DK w p mb es c) : mb ≠ p := fun e => by
  obtain ⟨a, b, hb⟩ := map_block h.hm
  rw [e, h.hp] at hb; cases hb
theorem DK.p_foot {w : World} {p mb : Nat} {es : List Ent} {c : Ctl} (h : DK w p mb es c) {e : Ent} (he : e ∈ es) : ¬ foot e p := by
  rintro (hk | hk)
  · have := (h.hf e he).cells; rw [← hk, h.hp] at this; simp at this
  · obtain ⟨cur, hb⟩ := row_block (h.hf e he).row hk
    rw [h.hp] at hb; cases hb
theorem DK.mb_foot {w : World} {p mb : Nat} {es : List Ent} {c : Ctl} (h : DK w p mb es c) {e : Ent} (he : e ∈ es) : ¬ foot e mb := by
  obtain ⟨a, b, hm⟩ := map_block h.hm
  rintro (hk | hk)
  · have := (h.hf e he).cells; rw [← hk, hm] at this; cases this
  · obtain ⟨cur, hb⟩ := row_block (h.hf e he).row hk
    rw [hm] at hb; cases hb
/-- The disk with other numbers. -/
theorem DK.set {w W : World} {p mb : Nat} {es : List Ent} {c : Ctl} (h : DK w p mb es c) (s : Stay (· = p) w W) (c' : Ctl) (hcap : c'.cap = c.cap) (hl : c'.left < 9223372036854775808) (ha : (Lit.int .i64 c'.age).wf = true) (hw : (Lit.int .i64 c'.wr).wf = true)
    (hp : W.heap[p]? = some (.cells #[.map (some mb), .int .i64 c'.cap, .int .i64 (used es), .bool c'.off, .int .i64 c'.left, .bool c'.dn, .int .i64 c'.age, .int .i64 c'.wr] 75 (0, 0))) : DK W p mb es c' :=
  { h with
    hp := hp
    hm := map_kept h.hm s h.p_mb
    hf := fun e he => (h.hf e he).kept s fun k hk hkp => h.p_foot he (hkp ▸ hk)
    full := by rw [hcap]; exact h.full
    cap := by rw [hcap]; exact h.cap
    left := hl
    age := ha
    wr := hw }
/-- The numbers behind an accepted write. -/
def tick (c : Ctl) : Ctl := { c with wr := wrap64 (c.wr + 1), off := c.left == 1, left := c.left - 1 }
set_option maxHeartbeats 4000000 in
set_option maxRecDepth 100000 in
theorem write_case {p mb : Nat} {es : List Ent} {c : Ctl} (w : World) (h : DK w p mb es c) (lasts : Bool) (f : FuncId) (caps : Array Value) (hcf : ∀ W : World, (callFunc f caps).run Tryz.prog W = .ok (.enter f caps) W) (Q : World → Prop) (b : Bool) (l E : Int)
    (hb : ((c.left : Int) == 1) = b) (hb' : (c.left == 1) = b) (hl : ((c.left - 1 : Nat) : Int) = l) (hE : (if c.left = 1 then 45 else 0) = E) (hc : (c.left = 0 ∧ l = 0) ∨ (1 ≤ c.left ∧ l = (c.left : Int) - 1))
    (hdo : (lasts = true ∨ b = false) → ∀ W, DK W p mb es (tick c) → Stay (· = p) w W → Calls Tryz.prog f caps W fun e w' => e = .returned (.tuple #[]) ∧ Q w')
    (hno : lasts = false → b = true → ∀ W, DK W p mb es (tick c) → Stay (· = p) w W → Q W)
    (hQ : ∀ W, Q W → W.cell? ⟨p, 3, none⟩ = some (.bool b)) :
    Calls Tryz.prog 70 #[Pt p, .bool lasts, .func (.func f) #[] caps] w fun e w' => e = .returned (.int .i64 E) ∧ Q w' := by
  obtain ⟨h0, h1, h2, h3, h4, h5, h6, h7⟩ := h.cell
  have z3 := h.frz 3
  have z4 := h.frz 4
  have z7 := h.frz 7
  have hlt := h.left
  have sW : Stay (· = p) w (((w.setCell ⟨p, 7, none⟩ (.int .i64 (wrap64 (c.wr + 1)))).setCell ⟨p, 3, none⟩ (.bool b)).setCell ⟨p, 4, none⟩ (.int .i64 l)) :=
    (((Stay.refl (· = p) w).setCell (p := ⟨p, 7, none⟩) (fun _ => rfl) _).setCell (p := ⟨p, 3, none⟩) (fun _ => rfl) _).setCell (p := ⟨p, 4, none⟩) (fun _ => rfl) _
  have dW : DK (((w.setCell ⟨p, 7, none⟩ (.int .i64 (wrap64 (c.wr + 1)))).setCell ⟨p, 3, none⟩ (.bool b)).setCell ⟨p, 4, none⟩ (.int .i64 l)) p mb es (tick c) := by
    refine h.set sW (tick c) rfl (by unfold tick; dsimp only; omega) h.age (wrap64_wf _) ?_
    rw [heap_setCell_same _ _ _ _ _ _ (heap_setCell_same _ _ _ _ _ _ (heap_setCell_same _ _ _ _ _ _ h.hp))]
    unfold tick
    rw [hb', hl]
    rfl
  have hd := fun hl => hdo hl _ dW sW
  have hn := fun h1 h2 => hno h1 h2 _ dW sW
  have h3' : ∀ v x : Value, ((w.setCell ⟨p, 7, none⟩ v).setCell ⟨p, 3, none⟩ (.bool b)).cell? ⟨p, 3, none⟩ = some (.bool b) := fun v _ => by
    obtain ⟨v', hv'⟩ := cell?_setCell_some (p := ⟨p, 7, none⟩) (x := v) h3
    exact World.cell?_setCell_same _ _ _ hv'
  have HE : Hid ((if c.left = 1 then 45 else 0) = E) := hE
  clear hdo hno sW dW hE
  generalize c.left = L at *
  cases lasts
  · cases b
    · have hd2 := hd (.inr rfl)
      clear hd hn
      have hE0 : E = 0 := by rw [← HE.out, if_neg]; intro e; simp [e] at hb'
      subst hE0
      rcases hc with ⟨rfl, rfl⟩ | ⟨h1L, rfl⟩
      · go_enter Tryz.func70, Tryz.ntmps70
        go_wp2_with fail
        refine hd2.mono ?_
        rintro e w1 ⟨rfl, q1⟩
        have c3 := hQ w1 q1
        go_wp2
        go_ret
        exact ⟨rfl, q1⟩
      · go_enter Tryz.func70, Tryz.ntmps70
        go_wp2_with fail
        refine hd2.mono ?_
        rintro e w1 ⟨rfl, q1⟩
        have c3 := hQ w1 q1
        go_wp2
        go_ret
        exact ⟨rfl, q1⟩
    · have q1 := hn rfl rfl
      clear hd hn
      have hE0 : E = 45 := by rw [← HE.out, if_pos]; simpa using hb'
      subst hE0
      rcases hc with ⟨rfl, rfl⟩ | ⟨h1L, rfl⟩
      · simp at hb
      · go_enter Tryz.func70, Tryz.ntmps70
        go_wp2
        go_ret
        exact ⟨rfl, q1⟩
  · have hd2 := hd (.inl rfl)
    clear hd hn
    rcases hc with ⟨rfl, rfl⟩ | ⟨h1L, rfl⟩
    · have hE0 : E = 0 := by rw [← HE.out, if_neg]; omega
      subst hE0
      cases b
      · go_enter Tryz.func70, Tryz.ntmps70
        go_wp2_with fail
        refine hd2.mono ?_
        rintro e w1 ⟨rfl, q1⟩
        have c3 := hQ w1 q1
        go_wp2
        go_ret
        exact ⟨rfl, q1⟩
      · simp at hb
    · go_enter Tryz.func70, Tryz.ntmps70
      go_wp2_with fail
      refine hd2.mono ?_
      rintro e w1 ⟨rfl, q1⟩
      have c3 := hQ w1 q1
      cases b
      · have hE0 : E = 0 := by rw [← HE.out, if_neg]; intro e; simp [e] at hb'
        subst hE0
        go_wp2
        go_ret
        exact ⟨rfl, q1⟩
      · have hE0 : E = 45 := by rw [← HE.out, if_pos]; simpa using hb'
        subst hE0
        go_wp2
        go_ret
        exact ⟨rfl, q1⟩
theorem write_any {p mb : Nat} {es : List Ent} {c : Ctl} (w : World) (h : DK w p mb es c) (lasts : Bool) (f : FuncId) (caps : Array Value) (hcf : ∀ W : World, (callFunc f caps).run Tryz.prog W = .ok (.enter f caps) W) (Q : World → Prop)
    (hdo : (lasts = true ∨ (c.left == 1) = false) → ∀ W, DK W p mb es (tick c) → Stay (· = p) w W → Calls Tryz.prog f caps W fun e w' => e = .returned (.tuple #[]) ∧ Q w')
    (hno : lasts = false → (c.left == 1) = true → ∀ W, DK W p mb es (tick c) → Stay (· = p) w W → Q W)
    (hQ : ∀ W, Q W → W.cell? ⟨p, 3, none⟩ = some (.bool (c.left == 1))) :
    Calls Tryz.prog 70 #[Pt p, .bool lasts, .func (.func f) #[] caps] w fun e w' => e = .returned (.int .i64 (if c.left = 1 then 45 else 0)) ∧ Q w' := by
  refine write_case w h lasts f caps hcf Q _ _ _ ?_ rfl rfl rfl ?_ hdo hno hQ
  · rw [Bool.eq_iff_iff, beq_iff_eq, beq_iff_eq]; omega
  · omega
end Go.Proofs.YtkoannkecojhmaaGreatDoor
