/-
  DERIVED. Create, Append, Sync, Cut, Delete, each whole.
-/
import Derived.Test.YtkoannkecojhmaaGreatDoorDCreate
import Derived.Test.YtkoannkecojhmaaGreatDoorDCut
import Derived.Test.YtkoannkecojhmaaGreatDoorDDelete
set_option linter.unusedVariables false
set_option linter.unusedSimpArgs false
set_option linter.unnecessarySimpa false
namespace Go.Proofs.YtkoannkecojhmaaGreatDoor
open Go.RowKit Go.Maps Go.Proofs.DiskMath
/-- A disk behind a write: its blocks are old ones of its own, or new. -/
structure Step (w w' : World) (p mb : Nat) (es es' : List Ent) (c' : Ctl) : Prop where
  dk : DK w' p mb es' c'
  stay : Stay (Foot p mb es) w w'
  foot : ∀ k, Foot p mb es' k → Foot p mb es k ∨ w.heap.size ≤ k
theorem Step.refl {w : World} {p mb : Nat} {es : List Ent} {c : Ctl} (h : DK w p mb es c) : Step w w p mb es es c := ⟨h, .refl _ _, fun _ h => .inl h⟩
theorem Step.trans {a b d : World} {p mb : Nat} {e1 e2 e3 : List Ent} {c2 c3 : Ctl} (h : Step a b p mb e1 e2 c2) (k : Step b d p mb e2 e3 c3) : Step a d p mb e1 e3 c3 :=
  ⟨k.dk, h.stay.andThen k.stay (fun i hi hF => (h.foot i hF).resolve_right (by omega)), fun i hi => by
    rcases k.foot i hi with h1 | h1
    · exact h.foot i h1
    · exact .inr (Nat.le_trans h.stay.size h1)⟩
theorem Foot.p {p mb : Nat} {es : List Ent} : Foot p mb es p := .inl rfl
theorem Foot.e {p mb : Nat} {es : List Ent} {e : Ent} (he : e ∈ es) {k : Nat} (h : foot e k) : Foot p mb es k := .inr (.inr ⟨e, he, h⟩)
/-- The answer of an accepted write. -/
def okE (c : Ctl) : Int := if c.left = 1 then 45 else 0
theorem write_ok {p mb : Nat} {es : List Ent} {c : Ctl} (w : World) (h : DK w p mb es c) (lasts : Bool) (f : FuncId) (caps : Array Value) (hcf : ∀ W : World, (callFunc f caps).run Tryz.prog W = .ok (.enter f caps) W) (Q : World → Prop)
    (hdo : (lasts = true ∨ (c.left == 1) = false) → ∀ W, DK W p mb es (tick c) → Stay (· = p) w W → Calls Tryz.prog f caps W fun e w' => e = .returned (.tuple #[]) ∧ Q w')
    (hno : lasts = false → (c.left == 1) = true → ∀ W, DK W p mb es (tick c) → Stay (· = p) w W → Q W)
    (hQ : ∀ W, Q W → W.cell? ⟨p, 3, none⟩ = some (.bool (c.left == 1))) (x : Int) (hx : x = okE c) :
    Calls Tryz.prog 70 #[Pt p, .bool lasts, .func (.func f) #[] caps] w fun e w' => e = .returned (.int .i64 x) ∧ Q w' := by
  rw [hx]; exact write_any w h lasts f caps hcf Q hdo hno hQ
theorem find_some {es : List Ent} {c : Ctl} {s : ByteArray} (hc : fdE es c s.data.toList = 0) : ∃ e, findE es s.data.toList = some e ∧ e ∈ es ∧ e.nm = s.data.toList ∧ c.off = false ∧ isNm s.data.toList = true ∧ s.size ≤ 32 ∧ fdP es c s.data.toList = Pt e.fb := by
  have hck : ckE c s.data.toList = 0 := by
    unfold fdE at hc; split at hc
    · assumption
    · exact hc
  have hc' := hc
  unfold fdE at hc'
  rw [if_pos hck] at hc'
  cases hf : findE es s.data.toList with
  | none => rw [hf] at hc'; cases hc'
  | some e => exact ⟨e, rfl, (findE_mem hf).1, (findE_mem hf).2, (ck_size hck).1, (ck_size hck).2.1, (ck_size hck).2.2, by simp [fdP, hck, ptrOf, hf]⟩
theorem find_none {es : List Ent} {c : Ctl} {n : List UInt8} (hc : fdE es c n ≠ 0) : fdP es c n = .pointer none := by
  unfold fdE at hc
  unfold fdP
  split
  · rename_i hck
    rw [if_pos hck] at hc
    unfold ptrOf
    cases hf : findE es n with
    | none => rfl
    | some e => rw [hf] at hc; simp at hc
  · rfl
theorem cell_new (w : World) (v : Value) (t : TypeId) : (w.alloc (.cells #[v] t)).cell? ⟨w.heap.size, 0, none⟩ = some v := by
  have := heap_alloc_new w (.cells #[v] t)
  simp only [World.cell?, this]; rfl
theorem step_alloc {w w' : World} {p mb : Nat} {es : List Ent} {c : Ctl} (h : DK w p mb es c) (b : Below w.heap.size w w') : Step w w' p mb es es c := ⟨h.below b, .below b, fun _ h => .inl h⟩
theorem hmf : ∀ (fn : Fn) (first cap : Array Value) (w : World), (Instr.makeFunc fn first cap).run Tryz.prog w = .ok (.func fn first cap) w := fun _ _ _ _ => rfl
theorem foot_mod {w : World} {p mb : Nat} {es : List Ent} {e x : Ent} (he : e ∈ es) (hb : x.fb = e.fb) (hv : ∀ k, x.v.ownBlock = some k → e.v.ownBlock = some k ∨ w.heap.size ≤ k) : ∀ k, Foot p mb (modE es x) k → Foot p mb es k ∨ w.heap.size ≤ k := fun k hk => by
  rcases hk with rfl | rfl | ⟨y, hy, hk⟩
  · exact .inl Foot.p
  · exact .inl (.inr (.inl rfl))
  · rcases modE_mem hy with rfl | ⟨hy, _⟩
    · rcases hk with rfl | hk
      · exact .inl (Foot.e he (.inl hb))
      · exact (hv k hk).imp (fun h => Foot.e he (.inr h)) id
    · exact .inl (Foot.e hy hk)
theorem stay_foot {w w1 W w' : World} {p mb : Nat} {es : List Ent} {e : Ent} (he : e ∈ es) (s1 : Below w.heap.size w w1) (sW : Stay (· = p) w1 W) (st : Stay (fun k => k = p ∨ foot e k) W w') : Stay (Foot p mb es) w w' :=
  ((Stay.below s1).trans (sW.mono fun k _ hk => hk ▸ Foot.p)).trans (st.mono fun i _ hi => by
    rcases hi with rfl | hi
    · exact Foot.p
    · exact Foot.e he hi)
set_option maxHeartbeats 4000000 in
set_option maxRecDepth 100000 in
theorem size_any {p mb : Nat} {es : List Ent} {c : Ctl} (s : ByteArray) (w : World) (h : DK w p mb es c) (R : Ending → World → Prop)
    (h1 : fdE es c s.data.toList ≠ 0 → R (.returned (.tuple #[.int .i64 0, .int .i64 (fdE es c s.data.toList)])) w)
    (h2 : ∀ e, findE es s.data.toList = some e → fdE es c s.data.toList = 0 → R (.returned (.tuple #[.int .i64 e.da.length, .int .i64 0])) w) :
    Calls Tryz.prog 43 #[Pt p, .string s] w R := by
  have hk := find_any s w h
  by_cases hc : fdE es c s.data.toList = 0
  · obtain ⟨e, hf, he, -, -, -, -, hP⟩ := find_some hc
    have fe := h.hf e he
    obtain ⟨c0, c1⟩ := fe.cell
    obtain ⟨a, cap, hv, hcap⟩ := slice_form fe.row
    rw [hv] at c0
    rw [hP, hc] at hk
    have hR := h2 e hf hc
    clear h1 h2
    go_enter Tryz.func43, Tryz.ntmps43
    go_wp2_with fail
    refine hk.mono ?_
    rintro r w' ⟨rfl, rfl⟩
    go_wp2
    exact hR
  · have hR := h1 hc
    clear h1 h2
    generalize fdE es c s.data.toList = x at *
    generalize fdP es c s.data.toList = y at *
    go_enter Tryz.func43, Tryz.ntmps43
    go_wp2_with fail
    refine hk.mono ?_
    rintro r w' ⟨rfl, rfl⟩
    go_wp2
    exact hR
set_option maxHeartbeats 4000000 in
set_option maxRecDepth 100000 in
theorem sync_any {p mb : Nat} {es : List Ent} {c : Ctl} (s : ByteArray) (w : World) (h : DK w p mb es c) (R : Ending → World → Prop)
    (h1 : fdE es c s.data.toList ≠ 0 → ∀ w', Step w w' p mb es es c → R (.returned (.int .i64 (fdE es c s.data.toList))) w')
    (h2 : ∀ e, findE es s.data.toList = some e → fdE es c s.data.toList = 0 → ∀ w', Step w w' p mb es (if c.left = 1 then es else modE es { e with du := e.da.length }) (tick c) → R (.returned (.int .i64 (okE c))) w') :
    Calls Tryz.prog 34 #[Pt p, .string s] w R := by
  have hk := find_any s w h
  by_cases hc : fdE es c s.data.toList = 0
  · obtain ⟨e, hf, he, -, -, -, -, hP⟩ := find_some hc
    rw [hP, hc] at hk
    have hb1 : Below w.heap.size w (w.alloc (.cells #[Pt e.fb] 86)) := (Below.refl _ w).alloc (Nat.le_refl _) _
    have d1 := h.below hb1
    have hb := cell_new w (Pt e.fb) 86
    obtain ⟨x, hx⟩ : ∃ x, x = okE c := ⟨_, rfl⟩
    have hR0 := h2 e hf hc
    rw [← hx] at hR0
    have hR := Hid.mk hR0
    clear hR0
    have hWr := write_ok _ d1 false 75 #[Pt w.heap.size] (fun W => by kernel_rfl) (fun W => Step w W p mb es (if c.left = 1 then es else modE es { e with du := e.da.length }) (tick c))
      (fun hl W dW sW => by
        have hl1 : ¬ c.left = 1 := by simpa using hl
        have hbW : W.cell? ⟨w.heap.size, 0, none⟩ = some (Pt e.fb) := by
          rw [World.cell?_of_block (sW.block w.heap.size (World.block_lt_of_cell? _ _ hb) (fun e1 => by have := h.lt (k := p) (.inl rfl); omega))]; exact hb
        refine (sync1_any e w.heap.size W dW he hbW).mono ?_
        rintro r w' ⟨rfl, dk, st⟩
        rw [if_neg hl1]
        exact ⟨rfl, dk, stay_foot he hb1 sW st, foot_mod he rfl fun k hk => .inl hk⟩)
      (fun _ hl W dW sW => by
        have hl1 : c.left = 1 := by simpa using hl
        rw [if_pos hl1]
        exact ⟨dW, (Stay.below hb1).trans (sW.mono fun k _ hk => hk ▸ Foot.p), fun k hk => .inl hk⟩)
      (fun W hQ => hQ.dk.cell.2.2.2.1) x hx
    have hmf := hmf
    clear h1 h2 hx
    go_enter Tryz.func34, Tryz.ntmps34
    go_wp2_with fail
    refine hk.mono ?_
    rintro r w' ⟨rfl, rfl⟩
    go_wp2_with fail
    refine hWr.mono ?_
    rintro r w2 ⟨rfl, q2⟩
    go_wp2
    exact hR.out _ q2
  · rw [find_none hc] at hk
    have hR := h1 hc
    generalize fdE es c s.data.toList = x at *
    have hb1 : Below w.heap.size w (w.alloc (.cells #[.pointer none] 86)) := (Below.refl _ w).alloc (Nat.le_refl _) _
    have hR' := hR _ (step_alloc h hb1)
    clear h1 h2 hR
    go_enter Tryz.func34, Tryz.ntmps34
    go_wp2_with fail
    refine hk.mono ?_
    rintro r w' ⟨rfl, rfl⟩
    go_wp2
    exact hR'
set_option maxHeartbeats 4000000 in
set_option maxRecDepth 100000 in
theorem append_any {p mb : Nat} {es : List Ent} {c : Ctl} (s t : ByteArray) (w : World) (h : DK w p mb es c) (ht : t.size ≤ maxLen) (R : Ending → World → Prop)
    (h1 : fdE es c s.data.toList ≠ 0 → ∀ w', Step w w' p mb es es c → R (.returned (.int .i64 (fdE es c s.data.toList))) w')
    (h2 : ∀ e, findE es s.data.toList = some e → fdE es c s.data.toList = 0 → 268435456 < e.da.length + t.size → ∀ w', Step w w' p mb es es c → R (.returned (.int .i64 36)) w')
    (h3 : ∀ e, findE es s.data.toList = some e → fdE es c s.data.toList = 0 → e.da.length + t.size ≤ 268435456 → c.cap < used es + t.size → ∀ w', Step w w' p mb es es c → R (.returned (.int .i64 44)) w')
    (h4 : ∀ e, findE es s.data.toList = some e → fdE es c s.data.toList = 0 → e.da.length + t.size ≤ 268435456 → used es + t.size ≤ c.cap → ∀ w' v, Step w w' p mb es (modE es { e with da := e.da ++ t.data.toList, v := v }) (tick c) → R (.returned (.int .i64 (okE c))) w') :
    Calls Tryz.prog 73 #[Pt p, .string s, .string t] w R := by
  obtain ⟨W0, hW0⟩ : ∃ W0, W0 = (w.alloc (.cells #[Pt p] 33)).alloc (.cells #[.string t] 9) := ⟨_, rfl⟩
  have hb0 : Below w.heap.size w W0 := by rw [hW0]; exact ((Below.refl _ w).alloc (Nat.le_refl _) _).alloc (by simp) _
  have d0 := h.below hb0
  have hk := find_any s W0 d0
  have hcp := h.cap
  have hfl := h.full
  have hsz0 : W0.heap.size = w.heap.size + 2 := by rw [hW0]; simp
  have q1 : W0.cell? ⟨w.heap.size, 0, none⟩ = some (Pt p) := by rw [hW0]; exact cell_alloc (cell_new w (Pt p) 33) _
  have q2 : W0.cell? ⟨w.heap.size + 1, 0, none⟩ = some (.string t) := by
    have := cell_new (w.alloc (.cells #[Pt p] 33)) (.string t) 9
    rw [hW0]; simpa using this
  by_cases hc : fdE es c s.data.toList = 0
  · obtain ⟨e, hf, he, -, -, -, -, hP⟩ := find_some hc
    rw [hP, hc] at hk
    have fe := h.hf e he
    have hda := fe.da
    obtain ⟨W1, hW1⟩ : ∃ W1, W1 = W0.alloc (.cells #[Pt e.fb] 86) := ⟨_, rfl⟩
    have hb1 : Below w.heap.size w W1 := by rw [hW1]; exact hb0.alloc hb0.size _
    have d1 := h.below hb1
    have k1 : W1.cell? ⟨w.heap.size, 0, none⟩ = some (Pt p) := by rw [hW1]; exact cell_alloc q1 _
    have k2 : W1.cell? ⟨w.heap.size + 1, 0, none⟩ = some (.string t) := by rw [hW1]; exact cell_alloc q2 _
    have k3 : W1.cell? ⟨w.heap.size + 2, 0, none⟩ = some (Pt e.fb) := by have := cell_new W0 (Pt e.fb) 86; rw [hW1, ← hsz0]; exact this
    obtain ⟨p0, p1, p2, _⟩ := d1.cell
    obtain ⟨c0, c1⟩ := (d1.hf e he).cell
    obtain ⟨a, cap, hv, hcap⟩ := slice_form fe.row
    rw [hv] at c0
    have l1 := World.block_lt_of_cell? W1 _ k1
    have l2 := World.block_lt_of_cell? W1 _ k2
    have l3 := World.block_lt_of_cell? W1 _ k3
    by_cases hbig : e.da.length + t.size ≤ 268435456
    · have t1 : ¬ (268435456 - (e.da.length : Int) < (t.size : Int)) := by omega
      by_cases hful : used es + t.size ≤ c.cap
      · have t2 : ¬ ((c.cap : Int) - (used es : Int) < (t.size : Int)) := by omega
        obtain ⟨x, hx⟩ : ∃ x, x = okE c := ⟨_, rfl⟩
        have hR0 := h4 e hf hc hbig hful
        rw [← hx] at hR0
        have hR := Hid.mk hR0
        have hWr := write_ok W1.drew.drew (d1.below ⟨rfl, rfl, rfl, Nat.le_refl _, fun _ _ => rfl⟩) true 85 #[Pt (w.heap.size + 2), Pt (w.heap.size + 1), Pt w.heap.size] (fun W => by kernel_rfl) (fun W => ∃ v, Step w W p mb es (modE es { e with da := e.da ++ t.data.toList, v := v }) (tick c))
          (fun _ W dW sW0 => by
            have sW := undrew (undrew sW0)
            have lp := h.lt (k := p) (.inl rfl)
            have g : ∀ (k : Nat) (v : Value), w.heap.size ≤ k → k < W1.heap.size → W1.cell? ⟨k, 0, none⟩ = some v → W.cell? ⟨k, 0, none⟩ = some v := fun k v hk hk2 hv => by
              rw [World.cell?_of_block (sW.block k hk2 (fun e1 => by omega))]; exact hv
            have nf : ∀ k, k = w.heap.size ∨ k = w.heap.size + 2 ∨ k = w.heap.size + 1 → ¬ Foot p mb es k := fun k hk hF => by have := h.lt hF; omega
            refine (append1_any e t (w.heap.size + 2) (w.heap.size + 1) w.heap.size W dW he (g _ _ (by omega) l1 k1) (g _ _ (by omega) l3 k3) (g _ _ (by omega) l2 k2) nf hbig hful).mono ?_
            rintro r w' ⟨rfl, v, dk, st, hloc⟩
            have hs1 := hb1.size
            have hs2 := sW.size
            exact ⟨rfl, v, dk, stay_foot he hb1 (Stay.mono sW fun k _ hk => hk) st, foot_mod he rfl fun k hk => (hloc k hk).imp id fun h => by omega⟩)
          (fun hl => by cases hl)
          (fun W hQ => by obtain ⟨v, hQ⟩ := hQ; exact hQ.dk.cell.2.2.2.1) x hx
        have hmf := hmf
        clear h1 h2 h3 h4 hR0 hx hf q1 q2
        rw [hW0] at hk
        go_enter Tryz.func73, Tryz.ntmps73
        go_wp2_with fail
        refine hk.mono ?_
        rintro r w' ⟨rfl, rfl⟩
        go_wp2
        rw [← hW0, ← hW1]
        clear hW1 hW0
        go_region
        go_wp2
        go_region
        go_wp2_with fail
        refine hWr.mono ?_
        rintro r w2 ⟨rfl, v, q2⟩
        go_wp2
        exact hR.out _ _ q2
      · have t2 : (c.cap : Int) - (used es : Int) < (t.size : Int) := by omega
        have hR := Hid.mk (h3 e hf hc hbig (by omega) W1.drew.drew (step_alloc h (hb1.drew.drew)))
        clear h1 h2 h3 h4 hf q1 q2
        rw [hW0] at hk
        go_enter Tryz.func73, Tryz.ntmps73
        go_wp2_with fail
        refine hk.mono ?_
        rintro r w' ⟨rfl, rfl⟩
        go_wp2
        rw [← hW0, ← hW1]
        clear hW1 hW0
        go_region
        go_wp2
        go_region
        go_wp2
        exact hR.out
    · have t1 : 268435456 - (e.da.length : Int) < (t.size : Int) := by omega
      have hR := Hid.mk (h2 e hf hc (by omega) W1.drew (step_alloc h (hb1.drew)))
      clear h1 h2 h3 h4 hf q1 q2
      rw [hW0] at hk
      go_enter Tryz.func73, Tryz.ntmps73
      go_wp2_with fail
      refine hk.mono ?_
      rintro r w' ⟨rfl, rfl⟩
      go_wp2
      rw [← hW0, ← hW1]
      clear hW1 hW0
      go_region
      go_wp2
      exact hR.out
  · rw [find_none hc] at hk
    have hR0 := h1 hc
    have hb1 : Below w.heap.size w (W0.alloc (.cells #[.pointer none] 86)) := hb0.alloc hb0.size _
    have hR := Hid.mk (hR0 _ (step_alloc h hb1))
    rw [hW0] at hR hk
    generalize fdE es c s.data.toList = x at *
    clear h1 h2 h3 h4 hR0 q1 q2
    go_enter Tryz.func73, Tryz.ntmps73
    go_wp2_with fail
    refine hk.mono ?_
    rintro r w' ⟨rfl, rfl⟩
    go_wp2
    exact hR.out
end Go.Proofs.YtkoannkecojhmaaGreatDoor
