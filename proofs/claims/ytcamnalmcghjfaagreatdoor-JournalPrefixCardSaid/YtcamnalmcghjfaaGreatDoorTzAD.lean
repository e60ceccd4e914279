/-
  DERIVED. DRename, DOps2, DArm, as one text.
-/
import Derived.Test.YtcamnalmcghjfaaGreatDoorTzAC
import Derived.Test.YtcamnalmcghjfaaGreatDoorTzAB
set_option linter.unusedVariables false
set_option linter.unusedSimpArgs false
set_option linter.unnecessarySimpa false
namespace Go.Proofs.YtcamnalmcghjfaaGreatDoor.Dk
open Go.RowKit Go.Maps Go.Proofs.DiskMath
/-- The files behind a rename. -/
def renE (es : List Ent) (e : Ent) (to : List UInt8) : List Ent := insE { e with nm := to } (delE (delE es e.nm) to)
theorem delE_len {es : List Ent} (hs : Srt es) {e : Ent} (he : e ∈ es) : (delE es e.nm).length + 1 = es.length := by
  induction es with
  | nil => cases he
  | cons z r ih =>
    have h1 := List.pairwise_cons.1 hs
    by_cases hz : z.nm = e.nm
    · have := Srt.uniq hs (List.mem_cons_self ..) he hz
      subst this
      have e2 : delE (z :: r) z.nm = r := by
        unfold delE
        rw [List.filter_cons_of_neg (by simp)]
        refine List.filter_eq_self.2 fun a ha => ?_
        have := h1.1 a ha
        simp only [Bool.not_eq_true', beq_eq_false_iff_ne]
        intro he; rw [he] at this; exact List.lt_irrefl _ this
      rw [e2]; rfl
    · have e2 : delE (z :: r) e.nm = z :: delE r e.nm := by
        unfold delE; rw [List.filter_cons_of_pos (by simp [hz])]
      rcases List.mem_cons.1 he with rfl | he
      · exact absurd rfl hz
      · rw [e2, List.length_cons, ih h1.2 he, List.length_cons]
theorem renE_mem {es : List Ent} {e x : Ent} {to : List UInt8} (h : x ∈ renE es e to) : x = { e with nm := to } ∨ (x ∈ es ∧ x.nm ≠ e.nm ∧ x.nm ≠ to) := by
  rcases insE_mem.1 h with h | h
  · exact .inl h
  · exact .inr ⟨(delE_mem.1 (delE_mem.1 h).1).1, (delE_mem.1 (delE_mem.1 h).1).2, (delE_mem.1 h).2⟩
/-- How many bytes the one has that must give way. -/
def goneE (es : List Ent) (e : Ent) (to : List UInt8) : Nat := match findE (delE es e.nm) to with | some g => g.da.length | none => 0
theorem used_ren {es : List Ent} (hs : Srt es) {e : Ent} (he : e ∈ es) (to : List UInt8) : used (renE es e to) + goneE es e to = used es := by
  have h1 := used_del hs he
  unfold renE goneE
  rw [used_ins]
  cases hf : findE (delE es e.nm) to with
  | none => rw [delE_of_none hf]; dsimp only; omega
  | some g =>
    have hg := findE_mem hf
    have h2 := used_del (hs.del e.nm) hg.1
    rw [hg.2] at h2
    dsimp only
    omega
theorem DK.ren {w W : World} {p mb n : Nat} {es : List Ent} {c : Ctl} (h : DK w p mb es c) {e : Ent} (he : e ∈ es) (to : List UInt8) (hto : isNm to = true) (s : Stay (fun k => k = p ∨ k = mb) w W) (hm : W.ownsMap Tryz.prog 9 ptrE mb n (dmap (renE es e to)))
    (hp : W.heap[p]? = some (.cells #[.map (some mb), .int .i64 c.cap, .int .i64 (used (renE es e to)), .bool c.off, .int .i64 c.left, .bool c.dn, .int .i64 c.age, .int .i64 c.wr] 53 (0, 0))) : DK W p mb (renE es e to) c := by
  have hu := used_ren h.srt he to
  have hf := h.full
  have hl : (renE es e to).length ≤ es.length := by
    unfold renE
    rw [insE_len]
    have := delE_len h.srt he
    have h2 := List.length_filter_le (fun x : Ent => !(x.nm == to)) (delE es e.nm)
    show (delE (delE es e.nm) to).length + 1 ≤ _
    unfold delE at *
    omega
  refine h.remap s hm (fun x hx => ?_) ?_ ?_ (fun x hx => ?_) (Nat.le_trans hl h.many) (by omega) hp
  · rcases renE_mem hx with rfl | ⟨hx, _⟩
    · exact ⟨e, he, rfl, rfl, rfl, rfl⟩
    · exact ⟨x, hx, rfl, rfl, rfl, rfl⟩
  · unfold renE
    refine ((insE_perm _ _).pairwise_iff ?_).2 (List.pairwise_cons.2 ⟨fun x hx => ?_, (h.sep.filter _).filter _⟩)
    · exact fun {a b} hab => ⟨Ne.symm hab.1, fun k hb ha => hab.2 k ha hb⟩
    · have hx1 := (delE_mem.1 (delE_mem.1 hx).1)
      have := h.apart he hx1.1 (Ne.symm hx1.2)
      exact ⟨fun e1 => this e.fb (.inl rfl) (.inl e1), fun k h1 h2 => this k (.inr h1) (.inr h2)⟩
  · unfold renE
    exact ((h.srt.del _).del _).ins (fun x hx => (delE_mem.1 hx).2)
  · rcases renE_mem hx with rfl | ⟨hx, _⟩
    · exact hto
    · exact h.nms x hx
theorem store_any {w : World} {mb n : Nat} {es : List Ent} (h : w.ownsMap Tryz.prog 9 ptrE mb n (dmap es)) (hn : n ≤ 4096) (s : ByteArray) (hs : s.size ≤ 32) (x : Ent) (hx : x.nm = s.data.toList) :
    ∃ w', (Instr.mapUpdate 51 (.map (some mb)) (.string s) (Pt x.fb)).run Tryz.prog w = .ok () w' ∧ Put w w' mb (n + 1) (insE x (delE es x.nm)) := by
  obtain ⟨w', h1, h2, h3, h4⟩ := store_eq h hn s hs x hx
  exact ⟨w', h1, h2, h3, h4⟩
theorem ren_fin {w W w3 w4 : World} {p mb n : Nat} {es : List Ent} {c : Ctl} {e : Ent} {to : List UInt8} (h : DK w p mb es c) (he : e ∈ es) (hto : isNm to = true) (s : Stay (fun k => k = p ∨ k = mb) w W)
    (hp : W.heap[p]? = some (.cells #[.map (some mb), .int .i64 c.cap, .int .i64 (used (renE es e to)), .bool c.off, .int .i64 c.left, .bool c.dn, .int .i64 c.age, .int .i64 c.wr] 53 (0, 0)))
    (b : Below W.heap.size W w3) (m : Put w3 w4 mb n (insE { e with nm := to } (delE (delE es e.nm) to))) : DK w4 p mb (renE es e to) c ∧ Stay (fun k => k = p ∨ k = mb) w w4 := by
  have s3 : Stay (fun k => k = p ∨ k = mb) w w4 := (s.trans (.below b)).trans (.grown m.2.1 (fun k hk => .inr (Option.some.inj hk).symm))
  have lp : p < W.heap.size := (Array.getElem?_eq_some_iff.1 hp).1
  refine ⟨h.ren he to hto s3 m.1 ?_, s3⟩
  rw [m.2.1.block p (Nat.lt_of_lt_of_le lp b.size) (fun e1 => h.p_mb (Option.some.inj e1).symm), b.block p lp]
  exact hp
end Go.Proofs.YtcamnalmcghjfaaGreatDoor.Dk
set_option linter.unusedVariables false
set_option linter.unusedSimpArgs false
set_option linter.unnecessarySimpa false
namespace Go.Proofs.YtcamnalmcghjfaaGreatDoor.Dk
open Go.RowKit Go.Maps Go.Proofs.DiskMath
/-- Is a write with names done? -/
def doneC (c : Ctl) : Bool := c.dn || !(c.left == 1)
theorem done_yes {c : Ctl} (h : c.dn = true ∨ (c.left == 1) = false) : doneC c = true := by
  unfold doneC; rcases h with h | h <;> rw [h] <;> simp
theorem done_no {c : Ctl} (h : c.dn = false) (h2 : (c.left == 1) = true) : doneC c = false := by
  unfold doneC; rw [h, h2]; rfl
theorem dk_drew {w : World} {p mb : Nat} {es : List Ent} {c : Ctl} (h : DK w p mb es c) : DK w.drew p mb es c := h.below ⟨rfl, rfl, rfl, Nat.le_refl _, fun _ _ => rfl⟩
theorem step_p {w w1 W : World} {p mb : Nat} {es : List Ent} {c : Ctl} (dW : DK W p mb es c) (s1 : Below w.heap.size w w1) (sW : Stay (· = p) w1 W) : Step w W p mb es es c :=
  ⟨dW, (Stay.below s1).trans (sW.mono fun k _ hk => hk ▸ Foot.p), fun k hk => .inl hk⟩
/-- The boxes of a call stand above the disk. -/
theorem box_kept {w W1 W : World} {p mb : Nat} {es : List Ent} {c : Ctl} (h : DK w p mb es c) (sW : Stay (· = p) W1 W) (k : Nat) (v : Value) (hk : w.heap.size ≤ k) (hv : W1.cell? ⟨k, 0, none⟩ = some v) : W.cell? ⟨k, 0, none⟩ = some v := by
  have lp := h.lt (k := p) (.inl rfl)
  rw [World.cell?_of_block (sW.block k (World.block_lt_of_cell? W1 _ hv) (fun e1 => by omega))]; exact hv
set_option maxHeartbeats 4000000 in
set_option maxRecDepth 100000 in
theorem cut_any {p mb : Nat} {es : List Ent} {c : Ctl} (s : ByteArray) (n : Int) (w : World) (h : DK w p mb es c) (R : Ending → World → Prop)
    (h1 : fdE es c s.data.toList ≠ 0 → ∀ w', Step w w' p mb es es c → R (.returned (.int .i64 (fdE es c s.data.toList))) w')
    (h2 : ∀ e, findE es s.data.toList = some e → fdE es c s.data.toList = 0 → (n < 0 ∨ (e.da.length : Int) < n) → ∀ w', Step w w' p mb es es c → R (.returned (.int .i64 13)) w')
    (h3 : ∀ e, findE es s.data.toList = some e → fdE es c s.data.toList = 0 → 0 ≤ n → n ≤ e.da.length → doneC c = true → ∀ w' v, Step w w' p mb es (modE es { e with da := e.da.take n.toNat, du := min e.du n.toNat, v := v }) (tick c) → R (.returned (.int .i64 (okE c))) w')
    (h4 : ∀ e, findE es s.data.toList = some e → fdE es c s.data.toList = 0 → 0 ≤ n → n ≤ e.da.length → doneC c = false → ∀ w', Step w w' p mb es es (tick c) → R (.returned (.int .i64 (okE c))) w') :
    Calls Tryz.prog 64 #[Pt p, .string s, .int .i64 n] w R := by
  obtain ⟨W0, hW0⟩ : ∃ W0, W0 = (w.alloc (.cells #[Pt p] 23)).alloc (.cells #[.int .i64 n] 3) := ⟨_, rfl⟩
  have hb0 : Below w.heap.size w W0 := by rw [hW0]; exact ((Below.refl _ w).alloc (Nat.le_refl _) _).alloc (by simp) _
  have d0 := h.below hb0
  have hk := find_any s W0 d0
  have hsz0 : W0.heap.size = w.heap.size + 2 := by rw [hW0]; simp
  have q1 : W0.cell? ⟨w.heap.size, 0, none⟩ = some (Pt p) := by rw [hW0]; exact cell_alloc (cell_new w (Pt p) 23) _
  have q2 : W0.cell? ⟨w.heap.size + 1, 0, none⟩ = some (.int .i64 n) := by
    have := cell_new (w.alloc (.cells #[Pt p] 23)) (.int .i64 n) 3
    rw [hW0]; simpa using this
  by_cases hc : fdE es c s.data.toList = 0
  · obtain ⟨e, hf, he, -, -, -, -, hP⟩ := find_some hc
    rw [hP, hc] at hk
    have fe := h.hf e he
    have hda := fe.da
    obtain ⟨W1, hW1⟩ : ∃ W1, W1 = W0.alloc (.cells #[Pt e.fb] 62) := ⟨_, rfl⟩
    have hb1 : Below w.heap.size w W1 := by rw [hW1]; exact hb0.alloc hb0.size _
    have d1 := h.below hb1
    have k1 : W1.cell? ⟨w.heap.size, 0, none⟩ = some (Pt p) := by rw [hW1]; exact cell_alloc q1 _
    have k2 : W1.cell? ⟨w.heap.size + 1, 0, none⟩ = some (.int .i64 n) := by rw [hW1]; exact cell_alloc q2 _
    have k3 : W1.cell? ⟨w.heap.size + 2, 0, none⟩ = some (Pt e.fb) := by have := cell_new W0 (Pt e.fb) 62; rw [hW1, ← hsz0]; exact this
    obtain ⟨-, -, -, -, -, p5, -, -⟩ := d1.cell
    obtain ⟨c0, c1⟩ := (d1.hf e he).cell
    obtain ⟨a, cap, hv, hcap⟩ := slice_form fe.row
    rw [hv] at c0
    by_cases hr : n < 0
    · have g0 : decide (n < 0) = true := by simpa using hr
      have hR := Hid.mk (h2 e hf hc (.inl hr) W1.drew (step_alloc h (hb1.drew)))
      clear h1 h2 h3 h4 hf q1 q2
      rw [hW0] at hk
      go_enter Tryz.func64, Tryz.ntmps64
      go_wp2_with fail
      refine hk.mono ?_
      rintro r w' ⟨rfl, rfl⟩
      go_wp2
      rw [← hW0, ← hW1]
      clear hW1 hW0
      go_region
      go_wp2
      exact hR.out
    have g0 : decide (n < 0) = false := by simpa using hr
    have g0' : ¬ n < 0 := hr
    by_cases hr2 : (e.da.length : Int) < n
    · have g1 : decide ((e.da.length : Int) < n) = true := by simpa using hr2
      have hR := Hid.mk (h2 e hf hc (.inr hr2) W1.drew (step_alloc h (hb1.drew)))
      clear h1 h2 h3 h4 hf q1 q2
      rw [hW0] at hk
      go_enter Tryz.func64, Tryz.ntmps64
      go_wp2_with fail
      refine hk.mono ?_
      rintro r w' ⟨rfl, rfl⟩
      go_wp2
      rw [← hW0, ← hW1]
      clear hW1 hW0
      go_region
      go_wp2
      exact hR.out
    · have g1 : decide ((e.da.length : Int) < n) = false := by simpa using hr2
      have n0 : 0 ≤ n := by omega
      have n1 : n ≤ e.da.length := by omega
      have hnn : ((n.toNat : Nat) : Int) = n := by omega
      obtain ⟨x, hx⟩ : ∃ x, x = okE c := ⟨_, rfl⟩
      have hR3 := h3 e hf hc n0 n1
      have hR4 := h4 e hf hc n0 n1
      rw [← hx] at hR3 hR4
      have hR := Hid.mk (And.intro hR3 hR4)
      have hWr := write_ok W1.drew.drew (dk_drew (dk_drew d1)) c.dn 81 #[Pt w.heap.size, Pt (w.heap.size + 2), Pt (w.heap.size + 1)] (fun W => by kernel_rfl)
        (fun W => (doneC c = true ∧ ∃ v, Step w W p mb es (modE es { e with da := e.da.take n.toNat, du := min e.du n.toNat, v := v }) (tick c)) ∨ (doneC c = false ∧ Step w W p mb es es (tick c)))
        (fun hl W dW sW0 => by
          have sW := undrew (undrew sW0)
          have nf : ∀ k, k = w.heap.size ∨ k = w.heap.size + 2 ∨ k = w.heap.size + 1 → ¬ Foot p mb es k := fun k hk hF => by have := h.lt hF; omega
          refine (cut1_any e n.toNat w.heap.size (w.heap.size + 2) (w.heap.size + 1) W dW he (box_kept h sW _ _ (by omega) k1) (box_kept h sW _ _ (by omega) k3) (by rw [hnn]; exact box_kept h sW _ _ (by omega) k2) nf (by omega)).mono ?_
          rintro r w' ⟨rfl, v, dk, st, hloc⟩
          exact ⟨rfl, .inl ⟨done_yes hl, v, dk, stay_foot he hb1 sW st, foot_mod he rfl fun k hk => .inl (by rw [← hloc]; exact hk)⟩⟩)
        (fun hd hl W dW sW0 => .inr ⟨done_no hd hl, step_p dW hb1 (undrew (undrew sW0))⟩)
        (fun W hQ => by rcases hQ with ⟨_, v, hQ⟩ | ⟨_, hQ⟩ <;> exact hQ.dk.cell.2.2.2.1) x hx
      have hmf := hmf
      clear h1 h2 h3 h4 hf q1 q2 hR3 hR4 hx
      rw [hW0] at hk
      go_enter Tryz.func64, Tryz.ntmps64
      go_wp2_with fail
      refine hk.mono ?_
      rintro r w' ⟨rfl, rfl⟩
      go_wp2
      rw [← hW0, ← hW1]
      clear hW1 hW0
      go_region
      · go_wp2
        go_region_with (go_at_call 49; refine hWr.mono ?_; rintro r w2 ⟨rfl, q2⟩)
        all_goals
          go_wp2
          try go_ret
          rcases q2 with ⟨hd, v, q2⟩ | ⟨hd, q2⟩
          · exact hR.out.1 hd _ _ q2
          · exact hR.out.2 hd _ q2
  · rw [find_none hc] at hk
    have hR0 := h1 hc
    have hb1 : Below w.heap.size w (W0.alloc (.cells #[.pointer none] 62)) := hb0.alloc hb0.size _
    have hR := Hid.mk (hR0 _ (step_alloc h hb1))
    rw [hW0] at hR hk
    generalize fdE es c s.data.toList = x at *
    clear h1 h2 h3 h4 hR0 q1 q2
    go_enter Tryz.func64, Tryz.ntmps64
    go_wp2_with fail
    refine hk.mono ?_
    rintro r w' ⟨rfl, rfl⟩
    go_wp2
    exact hR.out
set_option maxHeartbeats 4000000 in
set_option maxRecDepth 100000 in
theorem create_any {p mb : Nat} {es : List Ent} {c : Ctl} (s : ByteArray) (w : World) (h : DK w p mb es c) (R : Ending → World → Prop)
    (h1 : ckE c s.data.toList ≠ 0 → ∀ w', Step w w' p mb es es c → R (.returned (.int .i64 (ckE c s.data.toList))) w')
    (h2 : ∀ e, ckE c s.data.toList = 0 → findE es s.data.toList = some e → ∀ w', Step w w' p mb es es c → R (.returned (.int .i64 41)) w')
    (h5 : ckE c s.data.toList = 0 → findE es s.data.toList = none → 4096 ≤ es.length → ∀ w', Step w w' p mb es es c → R (.returned (.int .i64 43)) w')
    (h3 : ckE c s.data.toList = 0 → findE es s.data.toList = none → es.length < 4096 → doneC c = true → ∀ w' fb, Step w w' p mb es (insE (newE s.data.toList fb) es) (tick c) → R (.returned (.int .i64 (okE c))) w')
    (h4 : ckE c s.data.toList = 0 → findE es s.data.toList = none → es.length < 4096 → doneC c = false → ∀ w', Step w w' p mb es es (tick c) → R (.returned (.int .i64 (okE c))) w') :
    Calls Tryz.prog 21 #[Pt p, .string s] w R := by
  obtain ⟨W1, hW1⟩ : ∃ W1, W1 = (w.alloc (.cells #[Pt p] 23)).alloc (.cells #[.string s] 9) := ⟨_, rfl⟩
  have hb1 : Below w.heap.size w W1 := by rw [hW1]; exact ((Below.refl _ w).alloc (Nat.le_refl _) _).alloc (by simp) _
  have d1 := h.below hb1
  have hk := check_any s W1 d1
  have k1 : W1.cell? ⟨w.heap.size, 0, none⟩ = some (Pt p) := by rw [hW1]; exact cell_alloc (cell_new w (Pt p) 23) _
  have k2 : W1.cell? ⟨w.heap.size + 1, 0, none⟩ = some (.string s) := by
    have := cell_new (w.alloc (.cells #[Pt p] 23)) (.string s) 9
    rw [hW1]; simpa using this
  obtain ⟨p0, -, -, -, -, p5, -, -⟩ := d1.cell
  by_cases hc : ckE c s.data.toList = 0
  · obtain ⟨-, hnm, hsz⟩ := ck_size hc
    rw [hc] at hk
    have hl := (dk_drew d1).look s (by unfold maxLen; omega)
    cases hf : findE es s.data.toList with
    | some e =>
      rw [show ptrOf es s.data.toList = Pt e.fb by simp [ptrOf, hf]] at hl
      have hR := Hid.mk (h2 e hc hf W1.drew (step_alloc h (hb1.drew)))
      clear h1 h2 h3 h4 h5 hf
      rw [hW1] at hk
      go_enter Tryz.func21, Tryz.ntmps21
      go_wp2_with fail
      refine hk.mono ?_
      rintro r w' ⟨rfl, rfl⟩
      go_wp2
      rw [← hW1]
      clear hW1
      go_region
      go_wp2
      exact hR.out
    | none =>
      rw [show ptrOf es s.data.toList = .pointer none by simp [ptrOf, hf]] at hl
      have hlen := (dk_drew d1).hm.len Tryz.underlying51 3
      rw [dmap_size] at hlen
      by_cases hm : es.length < 4096
      · have g1 : ¬ (4096 ≤ (es.length : Int)) := by omega
        obtain ⟨x, hx⟩ : ∃ x, x = okE c := ⟨_, rfl⟩
        have hR3 := h3 hc hf hm
        have hR4 := h4 hc hf hm
        rw [← hx] at hR3 hR4
        have hR := Hid.mk (And.intro hR3 hR4)
        have hWr := write_ok W1.drew.drew (dk_drew (dk_drew d1)) c.dn 50 #[Pt w.heap.size, Pt (w.heap.size + 1)] (fun W => by kernel_rfl)
          (fun W => (doneC c = true ∧ ∃ fb, Step w W p mb es (insE (newE s.data.toList fb) es) (tick c)) ∨ (doneC c = false ∧ Step w W p mb es es (tick c)))
          (fun hl W dW sW0 => by
            have sW := undrew (undrew sW0)
            refine (create1_any s w.heap.size (w.heap.size + 1) W dW (box_kept h sW _ _ (by omega) k1) (box_kept h sW _ _ (by omega) k2) hf hsz hnm hm).mono ?_
            rintro r w' ⟨rfl, fb, hfb, dk, st⟩
            have hs1 := hb1.size
            have hs2 := sW.size
            refine ⟨rfl, .inl ⟨done_yes hl, fb, dk, ((Stay.below hb1).trans (sW.mono fun k _ hk => hk ▸ Foot.p)).trans (st.mono fun k _ hk => .inr (.inl hk)), fun k hk => ?_⟩⟩
            rcases hk with rfl | rfl | ⟨y, hy, hk⟩
            · exact .inl Foot.p
            · exact .inl (.inr (.inl rfl))
            · rcases insE_mem.1 hy with rfl | hy
              · rcases hk with rfl | hk
                · exact .inr (by omega)
                · cases hk
              · exact .inl (Foot.e hy hk))
          (fun hd hl W dW sW0 => .inr ⟨done_no hd hl, step_p dW hb1 (undrew (undrew sW0))⟩)
          (fun W hQ => by rcases hQ with ⟨_, fb, hQ⟩ | ⟨_, hQ⟩ <;> exact hQ.dk.cell.2.2.2.1) x hx
        have hmf := hmf
        clear h1 h2 h3 h4 h5 hf hR3 hR4 hx
        rw [hW1] at hk
        go_enter Tryz.func21, Tryz.ntmps21
        go_wp2_with fail
        refine hk.mono ?_
        rintro r w' ⟨rfl, rfl⟩
        go_wp2
        rw [← hW1]
        clear hW1
        go_region
        go_wp2
        go_region_with (go_at_call 49; refine hWr.mono ?_; rintro r w2 ⟨rfl, q2⟩)
        all_goals
          go_wp2
          try go_ret
          rcases q2 with ⟨hd, fb, q2⟩ | ⟨hd, q2⟩
          · exact hR.out.1 hd _ _ q2
          · exact hR.out.2 hd _ q2
      · have g1 : 4096 ≤ (es.length : Int) := by omega
        have hR := Hid.mk (h5 hc hf (by omega) W1.drew (step_alloc h (hb1.drew)))
        clear h1 h2 h3 h4 h5 hf
        rw [hW1] at hk
        go_enter Tryz.func21, Tryz.ntmps21
        go_wp2_with fail
        refine hk.mono ?_
        rintro r w' ⟨rfl, rfl⟩
        go_wp2
        rw [← hW1]
        clear hW1
        go_region
        go_wp2
        exact hR.out
  · have hR := Hid.mk (h1 hc _ (step_alloc h hb1))
    rw [hW1] at hR hk
    generalize ckE c s.data.toList = x at *
    clear h1 h2 h3 h4 h5 k1 k2 p0 p5
    go_enter Tryz.func21, Tryz.ntmps21
    go_wp2_with fail
    refine hk.mono ?_
    rintro r w' ⟨rfl, rfl⟩
    go_wp2
    exact hR.out
end Go.Proofs.YtcamnalmcghjfaaGreatDoor.Dk
set_option linter.unusedVariables false
set_option linter.unusedSimpArgs false
set_option linter.unnecessarySimpa false
namespace Go.Proofs.YtcamnalmcghjfaaGreatDoor.Dk
open Go.RowKit Go.Maps Go.Proofs.DiskMath
def armC (c : Ctl) (n : Int) (b : Bool) : Ctl := if c.off then c else { c with left := n.toNat, dn := b }
set_option maxHeartbeats 4000000 in
set_option maxRecDepth 100000 in
theorem arm_any {p mb : Nat} {es : List Ent} {c : Ctl} (n : Int) (b : Bool) (w : World) (h : DK w p mb es c) (hn : n < 9223372036854775808) (hn0 : -9223372036854775808 ≤ n) (R : Ending → World → Prop) (h1 : ∀ w', Step w w' p mb es es (armC c n b) → R (.returned (.tuple #[])) w') :
    Calls Tryz.prog 24 #[Pt p, .int .i64 n, .bool b] w R := by
  obtain ⟨p0, p1, p2, p3, p4, p5, p6, p7⟩ := h.cell
  have z4 := h.frz 4
  have z5 := h.frz 5
  have hk := down_any w h
  cases ho : c.off
  · rw [ho] at hk
    have key : ∀ l : Int, l = (n.toNat : Int) → Step w ((w.setCell ⟨p, 4, none⟩ (.int .i64 l)).setCell ⟨p, 5, none⟩ (.bool b)) p mb es es (armC c n b) := fun l hl => by
      have s1 : Stay (· = p) w ((w.setCell ⟨p, 4, none⟩ (.int .i64 l)).setCell ⟨p, 5, none⟩ (.bool b)) := ((Stay.refl (· = p) w).setCell (p := ⟨p, 4, none⟩) (fun _ => rfl) _).setCell (p := ⟨p, 5, none⟩) (fun _ => rfl) _
      have e1 : armC c n b = { c with left := n.toNat, dn := b } := by unfold armC; rw [ho]; rfl
      refine ⟨h.set s1 _ (by rw [e1]) (by rw [e1]; dsimp only; omega) (by rw [e1]; exact h.age) (by rw [e1]; exact h.wr) ?_, s1.mono fun k _ hk => hk ▸ Foot.p, fun k hk => .inl hk⟩
      rw [heap_setCell_same _ _ 5 _ _ _ (heap_setCell_same _ _ 4 _ _ _ h.hp), e1, hl]
      rfl
    by_cases hneg : n < 0
    · have hR := Hid.mk (h1 _ (key 0 (by omega)))
      clear h1
      go_enter Tryz.func24, Tryz.ntmps24
      go_wp2_with fail
      refine hk.mono ?_
      rintro r w' ⟨rfl, rfl⟩
      go_wp2
      try go_end0
      exact hR.out
    · have hR := Hid.mk (h1 _ (key n (by omega)))
      clear h1
      go_enter Tryz.func24, Tryz.ntmps24
      go_wp2_with fail
      refine hk.mono ?_
      rintro r w' ⟨rfl, rfl⟩
      go_wp2
      try go_end0
      exact hR.out
  · rw [ho] at hk
    have e1 : armC c n b = c := by unfold armC; rw [ho]; rfl
    have hR := Hid.mk (h1 w (by rw [e1]; exact Step.refl h))
    clear h1
    go_enter Tryz.func24, Tryz.ntmps24
    go_wp2_with fail
    refine hk.mono ?_
    rintro r w' ⟨rfl, rfl⟩
    go_wp2
    try refine bodyPost_ret (results_none rfl _ _ _) rfl ?_
    exact hR.out
/-- The numbers of a new disk. -/
def newC (cap : Nat) : Ctl := ⟨cap, false, 0, false, 0, 0⟩
theorem new_dk (w : World) (cap : Nat) (h : cap ≤ 1073741824) :
    DK ((w.alloc (.map #[] 0)).alloc (.cells #[.map (some w.heap.size), .int .i64 cap, .int .i64 0, .bool false, .int .i64 0, .bool false, .int .i64 0, .int .i64 0] 53)) (w.heap.size + 1) w.heap.size [] (newC cap) :=
  { hp := by
      have := heap_alloc_new (w.alloc (.map #[] 0)) (.cells #[.map (some w.heap.size), .int .i64 cap, .int .i64 0, .bool false, .int .i64 0, .bool false, .int .i64 0, .int .i64 0] 53)
      simpa [newC, used] using this
    hm := (World.ownsMap_made w Tryz.prog 9 ptrE).alloc _
    hf := fun e he => by cases he
    sep := .nil
    srt := .nil
    nms := fun e he => by cases he
    many := Nat.zero_le _
    full := Nat.zero_le _
    cap := h
    left := by show 0 < _; decide
    age := by show (Lit.int .i64 0).wf = true; decide
    wr := by show (Lit.int .i64 0).wf = true; decide }
set_option maxHeartbeats 4000000 in
set_option maxRecDepth 100000 in
theorem new_any (cap : Int) (w : World) (R : Ending → World → Prop)
    (h1 : (cap < 0 ∨ 1073741824 < cap) → R (.returned (.pointer none)) w)
    (h2 : 0 ≤ cap → cap ≤ 1073741824 → ∀ w', DK w' (w.heap.size + 1) w.heap.size [] (newC cap.toNat) → Below w.heap.size w w' → R (.returned (Pt (w.heap.size + 1))) w') :
    Calls Tryz.prog 4 #[.int .i64 cap] w R := by
  have hmm := @run_makeMap Tryz.prog
  by_cases hc : cap < 0 ∨ 1073741824 < cap
  · have hR := Hid.mk (h1 hc)
    clear h1 h2
    go_enter Tryz.func4, Tryz.ntmps4
    go_wp2
    all_goals first | exact hR.out | (exfalso; omega)
  · have hR := Hid.mk (h2 (by omega) (by omega) _ (new_dk w cap.toNat (by omega)) (((Below.refl _ w).alloc (Nat.le_refl _) _).alloc (by simp) _))
    rw [show ((cap.toNat : Nat) : Int) = cap by omega] at hR
    clear h1 h2
    go_enter Tryz.func4, Tryz.ntmps4
    go_wp2
    all_goals first | (exfalso; omega) | exact hR.out
/-- A part of a row as a text. -/
theorem conv_sub {w : World} {v : Value} {da : List UInt8} {a : Option Addr} {cap : Nat} (h : w.ownsRow 0 5 1 v da.length (da.map BV)) (hv : v = .slice a da.length cap) (A N C : Nat) (hl : A + N ≤ da.length) :
    (convert 64 9 (.slice (a.map (fun x => x.add A)) N C)).run Tryz.prog w = .ok (.string ⟨((da.drop A).take N).toArray⟩) w := by
  subst hv
  rcases h.2 with ⟨h0, hn⟩ | ⟨g, cap', cur, h0, _⟩
  · simp only [Value.slice.injEq] at h0
    obtain ⟨rfl, hn', _⟩ := h0
    have : N = 0 := by omega
    subst this
    rw [List.take_zero]
    show (convert 64 9 (.slice none 0 C)).run Tryz.prog w = _
    rw [run_convert_bytes_string w 64 9 5 none 0 C Tryz.underlying64 Tryz.underlying5 Tryz.underlying9]; rfl
  · cases h0
    have hlen : ((da.drop A).take N).length = N := by rw [List.length_take, List.length_drop]; omega
    have := run_convert_bytes_back (P := Tryz.prog) w 64 9 5 ⟨g, A, none⟩ C ((da.drop A).take N) Tryz.underlying64 Tryz.underlying5 Tryz.underlying9 (fun j hj => by
      have hj' : j < N := by omega
      have h1 := h.cellAt (A + j) (by omega)
      have e : (⟨g, A, none⟩ : Addr).add j = ⟨g, A + j, none⟩ := by unfold Addr.add; split <;> simp_all
      rw [e, h1, List.getElem?_map, List.getElem?_eq_getElem (by omega)]
      simp [BV, List.getElem_take, List.getElem_drop])
    rw [hlen] at this
    have e2 : (⟨g, 0, none⟩ : Addr).add A = ⟨g, A, none⟩ := by unfold Addr.add; split <;> simp_all
    simp only [Option.map_some, e2]
    exact this
set_option maxHeartbeats 4000000 in
set_option maxRecDepth 100000 in
theorem read_any {p mb : Nat} {es : List Ent} {c : Ctl} (s : ByteArray) (at_ n : Int) (w : World) (h : DK w p mb es c) (ha : -9223372036854775808 ≤ at_ ∧ at_ < 9223372036854775808) (hn : -9223372036854775808 ≤ n ∧ n < 9223372036854775808) (R : Ending → World → Prop)
    (h1 : fdE es c s.data.toList ≠ 0 → R (.returned (.tuple #[.string ⟨#[]⟩, .int .i64 (fdE es c s.data.toList)])) w)
    (h2 : ∀ e, findE es s.data.toList = some e → fdE es c s.data.toList = 0 → ¬ (0 ≤ at_ ∧ 0 ≤ n ∧ at_ + n ≤ e.da.length) → R (.returned (.tuple #[.string ⟨#[]⟩, .int .i64 13])) w)
    (h3 : ∀ e, findE es s.data.toList = some e → fdE es c s.data.toList = 0 → 0 ≤ at_ → 0 ≤ n → at_ + n ≤ e.da.length → R (.returned (.tuple #[.string ⟨((e.da.drop at_.toNat).take n.toNat).toArray⟩, .int .i64 0])) w) :
    Calls Tryz.prog 77 #[Pt p, .string s, .int .i64 at_, .int .i64 n] w R := by
  have hk := find_any s w h
  by_cases hc : fdE es c s.data.toList = 0
  · obtain ⟨e, hf, he, -, -, -, -, hP⟩ := find_some hc
    have fe := h.hf e he
    have hda := fe.da
    obtain ⟨c0, c1⟩ := fe.cell
    obtain ⟨a, cap, hv, hcap⟩ := slice_form fe.row
    rw [hv] at c0
    rw [hP, hc] at hk
    by_cases hok : 0 ≤ at_ ∧ 0 ≤ n ∧ at_ + n ≤ e.da.length
    · obtain ⟨k1, k2, k3⟩ := hok
      have hR := Hid.mk (h3 e hf hc k1 k2 k3)
      have t1 : ¬ at_ < 0 := by omega
      have t2 : ¬ n < 0 := by omega
      have t3 : ¬ ((e.da.length : Int) - at_ < n) := by omega
      have t4 : at_ ≤ at_ + n := by omega
      have t5 : at_ + n ≤ cap := by omega
      have e1 := conv_sub fe.row hv at_.toNat n.toNat (cap - at_.toNat) (by omega)
      rw [show n.toNat = (at_ + n).toNat - at_.toNat by omega] at e1 hR
      have e2 : cap = at_.toNat → (convert 64 9 (.slice a ((at_ + n).toNat - at_.toNat) 0)).run Tryz.prog w = .ok (.string ⟨((e.da.drop at_.toNat).take ((at_ + n).toNat - at_.toNat)).toArray⟩) w := fun hcc => by
        have hn0 : (at_ + n).toNat - at_.toNat = 0 := by omega
        rw [hn0, List.take_zero]
        rw [run_convert_bytes_string w 64 9 5 a 0 0 Tryz.underlying64 Tryz.underlying5 Tryz.underlying9]; cases a <;> rfl
      obtain ⟨S, hS⟩ : ∃ S : ByteArray, S = ⟨((e.da.drop at_.toNat).take ((at_ + n).toNat - at_.toNat)).toArray⟩ := ⟨_, rfl⟩
      rw [← hS] at e1 e2 hR
      clear hS
      clear h1 h2 h3
      go_enter Tryz.func77, Tryz.ntmps77
      go_wp2_with fail
      refine hk.mono ?_
      rintro r w' ⟨rfl, rfl⟩
      go_wp2
      all_goals first | exact hR.out | (exfalso; omega)
    · have hR := Hid.mk (h2 e hf hc hok)
      clear h1 h2 h3
      go_enter Tryz.func77, Tryz.ntmps77
      go_wp2_with fail
      refine hk.mono ?_
      rintro r w' ⟨rfl, rfl⟩
      go_wp2
      all_goals first | exact hR.out | (exfalso; omega)
  · have hR := Hid.mk (h1 hc)
    clear h1 h2 h3
    generalize fdE es c s.data.toList = x at *
    generalize fdP es c s.data.toList = y at *
    go_enter Tryz.func77, Tryz.ntmps77
    go_wp2_with fail
    refine hk.mono ?_
    rintro r w' ⟨rfl, rfl⟩
    go_wp2
    exact hR.out
end Go.Proofs.YtcamnalmcghjfaaGreatDoor.Dk
