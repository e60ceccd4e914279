/-
  DERIVED. DOps, DRename, as one text.
-/
import Derived.Test.YtfijjlkhgelmoaaGreatDoorTzAC
import Derived.Test.YtfijjlkhgelmoaaGreatDoorTzAD
set_option linter.unusedVariables false
set_option linter.unusedSimpArgs false
set_option linter.unnecessarySimpa false
namespace Go.Proofs.YtfijjlkhgelmoaaGreatDoor.Dk
open Go.RowKit Go.Maps Go.Proofs.DiskMath
/-- A disk behind a write: its blocks are old ones of its own, or new. -/
structure Step (w w' : World) (p mb : Nat) (es es' : List Ent) (c' : Ctl) : Prop where
  dk : DK w' p mb es' c'
  stay : Stay (Foot p mb es) w w'
  foot : ∀ k, Foot p mb es' k → Foot p mb es k ∨ w.heap.size ≤ k
theorem Step.refl {w : World} {p mb : Nat} {es : List Ent} {c : Ctl} (h : DK w p mb es c) : Step w w p mb es es c := ⟨h, .refl _ _, fun _ h => .inl h⟩
theorem Step.trans {a b d : World} {p mb : Nat} {e1 e2 e3 : List Ent} {c2 c3 : Ctl} (h : Step a b p mb e1 e2 c2) (k : Step b d p mb e2 e3 c3) : Step a d p mb e1 e3 c3 :=
  ⟨k.dk, h.stay.andThen k.stay (fun i hi hF => (h.foot i hF).resolve_right (by omega)), fun i hi => by
    rcases k.foot i hi with h1 | h1
    · exact h.foot i h1
    · exact .inr (Nat.le_trans h.stay.size h1)⟩
theorem Foot.p {p mb : Nat} {es : List Ent} : Foot p mb es p := .inl rfl
theorem Foot.e {p mb : Nat} {es : List Ent} {e : Ent} (he : e ∈ es) {k : Nat} (h : foot e k) : Foot p mb es k := .inr (.inr ⟨e, he, h⟩)
/-- The answer of an accepted write. -/
def okE (c : Ctl) : Int := if c.left = 1 then 45 else 0
theorem write_ok {p mb : Nat} {es : List Ent} {c : Ctl} (w : World) (h : DK w p mb es c) (lasts : Bool) (f : FuncId) (caps : Array Value) (hcf : ∀ W : World, (callFunc f caps).run Tryz.prog W = .ok (.enter f caps) W) (Q : World → Prop)
    (hdo : (lasts = true ∨ (c.left == 1) = false) → ∀ W, DK W p mb es (tick c) → Stay (· = p) w W → Calls Tryz.prog f caps W fun e w' => e = .returned (.tuple #[]) ∧ Q w')
    (hno : lasts = false → (c.left == 1) = true → ∀ W, DK W p mb es (tick c) → Stay (· = p) w W → Q W)
    (hQ : ∀ W, Q W → W.cell? ⟨p, 3, none⟩ = some (.bool (c.left == 1))) (x : Int) (hx : x = okE c) :
    Calls Tryz.prog 21 #[Pt p, .bool lasts, .func (.func f) #[] caps] w fun e w' => e = .returned (.int .i64 x) ∧ Q w' := by
  rw [hx]; exact write_any w h lasts f caps hcf Q hdo hno hQ
theorem find_some {es : List Ent} {c : Ctl} {s : ByteArray} (hc : fdE es c s.data.toList = 0) : ∃ e, findE es s.data.toList = some e ∧ e ∈ es ∧ e.nm = s.data.toList ∧ c.off = false ∧ isNm s.data.toList = true ∧ s.size ≤ 32 ∧ fdP es c s.data.toList = Pt e.fb := by
  have hck : ckE c s.data.toList = 0 := by
    unfold fdE at hc; split at hc
    · assumption
    · exact hc
  have hc' := hc
  unfold fdE at hc'
  rw [if_pos hck] at hc'
  cases hf : findE es s.data.toList with
  | none => rw [hf] at hc'; cases hc'
  | some e => exact ⟨e, rfl, (findE_mem hf).1, (findE_mem hf).2, (ck_size hck).1, (ck_size hck).2.1, (ck_size hck).2.2, by simp [fdP, hck, ptrOf, hf]⟩
theorem find_none {es : List Ent} {c : Ctl} {n : List UInt8} (hc : fdE es c n ≠ 0) : fdP es c n = .pointer none := by
  unfold fdE at hc
  unfold fdP
  split
  · rename_i hck
    rw [if_pos hck] at hc
    unfold ptrOf
    cases hf : findE es n with
    | none => rfl
    | some e => rw [hf] at hc; simp at hc
  · rfl
theorem cell_new (w : World) (v : Value) (t : TypeId) : (w.alloc (.cells #[v] t)).cell? ⟨w.heap.size, 0, none⟩ = some v := by
  have := heap_alloc_new w (.cells #[v] t)
  simp only [World.cell?, this]; rfl
theorem step_alloc {w w' : World} {p mb : Nat} {es : List Ent} {c : Ctl} (h : DK w p mb es c) (b : Below w.heap.size w w') : Step w w' p mb es es c := ⟨h.below b, .below b, fun _ h => .inl h⟩
theorem hmf : ∀ (fn : Fn) (first cap : Array Value) (w : World), (Instr.makeFunc fn first cap).run Tryz.prog w = .ok (.func fn first cap) w := fun _ _ _ _ => rfl
theorem foot_mod {w : World} {p mb : Nat} {es : List Ent} {e x : Ent} (he : e ∈ es) (hb : x.fb = e.fb) (hv : ∀ k, x.v.ownBlock = some k → e.v.ownBlock = some k ∨ w.heap.size ≤ k) : ∀ k, Foot p mb (modE es x) k → Foot p mb es k ∨ w.heap.size ≤ k := fun k hk => by
  rcases hk with rfl | rfl | ⟨y, hy, hk⟩
  · exact .inl Foot.p
  · exact .inl (.inr (.inl rfl))
  · rcases modE_mem hy with rfl | ⟨hy, _⟩
    · rcases hk with rfl | hk
      · exact .inl (Foot.e he (.inl hb))
      · exact (hv k hk).imp (fun h => Foot.e he (.inr h)) id
    · exact .inl (Foot.e hy hk)
theorem stay_foot {w w1 W w' : World} {p mb : Nat} {es : List Ent} {e : Ent} (he : e ∈ es) (s1 : Below w.heap.size w w1) (sW : Stay (· = p) w1 W) (st : Stay (fun k => k = p ∨ foot e k) W w') : Stay (Foot p mb es) w w' :=
  ((Stay.below s1).trans (sW.mono fun k _ hk => hk ▸ Foot.p)).trans (st.mono fun i _ hi => by
    rcases hi with rfl | hi
    · exact Foot.p
    · exact Foot.e he hi)
set_option maxHeartbeats 4000000 in
set_option maxRecDepth 100000 in
theorem size_any {p mb : Nat} {es : List Ent} {c : Ctl} (s : ByteArray) (w : World) (h : DK w p mb es c) (R : Ending → World → Prop)
    (h1 : fdE es c s.data.toList ≠ 0 → R (.returned (.tuple #[.int .i64 0, .int .i64 (fdE es c s.data.toList)])) w)
    (h2 : ∀ e, findE es s.data.toList = some e → fdE es c s.data.toList = 0 → R (.returned (.tuple #[.int .i64 e.da.length, .int .i64 0])) w) :
    Calls Tryz.prog 11 #[Pt p, .string s] w R := by
  have hk := find_any s w h
  by_cases hc : fdE es c s.data.toList = 0
  · obtain ⟨e, hf, he, -, -, -, -, hP⟩ := find_some hc
    have fe := h.hf e he
    obtain ⟨c0, c1⟩ := fe.cell
    obtain ⟨a, cap, hv, hcap⟩ := slice_form fe.row
    rw [hv] at c0
    rw [hP, hc] at hk
    have hR := h2 e hf hc
    clear h1 h2
    go_enter Tryz.func11, Tryz.ntmps11
    go_wp2_with fail
    refine hk.mono ?_
    rintro r w' ⟨rfl, rfl⟩
    go_wp2
    exact hR
  · have hR := h1 hc
    clear h1 h2
    generalize fdE es c s.data.toList = x at *
    generalize fdP es c s.data.toList = y at *
    go_enter Tryz.func11, Tryz.ntmps11
    go_wp2_with fail
    refine hk.mono ?_
    rintro r w' ⟨rfl, rfl⟩
    go_wp2
    exact hR
set_option maxHeartbeats 4000000 in
set_option maxRecDepth 100000 in
theorem append_any {p mb : Nat} {es : List Ent} {c : Ctl} (s t : ByteArray) (w : World) (h : DK w p mb es c) (ht : t.size ≤ maxLen) (R : Ending → World → Prop)
    (h1 : fdE es c s.data.toList ≠ 0 → ∀ w', Step w w' p mb es es c → R (.returned (.int .i64 (fdE es c s.data.toList))) w')
    (h2 : ∀ e, findE es s.data.toList = some e → fdE es c s.data.toList = 0 → 268435456 < e.da.length + t.size → ∀ w', Step w w' p mb es es c → R (.returned (.int .i64 36)) w')
    (h3 : ∀ e, findE es s.data.toList = some e → fdE es c s.data.toList = 0 → e.da.length + t.size ≤ 268435456 → c.cap < used es + t.size → ∀ w', Step w w' p mb es es c → R (.returned (.int .i64 44)) w')
    (h4 : ∀ e, findE es s.data.toList = some e → fdE es c s.data.toList = 0 → e.da.length + t.size ≤ 268435456 → used es + t.size ≤ c.cap → ∀ w' v, Step w w' p mb es (modE es { e with da := e.da ++ t.data.toList, v := v }) (tick c) → R (.returned (.int .i64 (okE c))) w') :
    Calls Tryz.prog 10 #[Pt p, .string s, .string t] w R := by
  obtain ⟨W0, hW0⟩ : ∃ W0, W0 = (w.alloc (.cells #[Pt p] 23)).alloc (.cells #[.string t] 9) := ⟨_, rfl⟩
  have hb0 : Below w.heap.size w W0 := by rw [hW0]; exact ((Below.refl _ w).alloc (Nat.le_refl _) _).alloc (by simp) _
  have d0 := h.below hb0
  have hk := find_any s W0 d0
  have hcp := h.cap
  have hfl := h.full
  have hsz0 : W0.heap.size = w.heap.size + 2 := by rw [hW0]; simp
  have q1 : W0.cell? ⟨w.heap.size, 0, none⟩ = some (Pt p) := by rw [hW0]; exact cell_alloc (cell_new w (Pt p) 23) _
  have q2 : W0.cell? ⟨w.heap.size + 1, 0, none⟩ = some (.string t) := by
    have := cell_new (w.alloc (.cells #[Pt p] 23)) (.string t) 9
    rw [hW0]; simpa using this
  by_cases hc : fdE es c s.data.toList = 0
  · obtain ⟨e, hf, he, -, -, -, -, hP⟩ := find_some hc
    rw [hP, hc] at hk
    have fe := h.hf e he
    have hda := fe.da
    obtain ⟨W1, hW1⟩ : ∃ W1, W1 = W0.alloc (.cells #[Pt e.fb] 53) := ⟨_, rfl⟩
    have hb1 : Below w.heap.size w W1 := by rw [hW1]; exact hb0.alloc hb0.size _
    have d1 := h.below hb1
    have k1 : W1.cell? ⟨w.heap.size, 0, none⟩ = some (Pt p) := by rw [hW1]; exact cell_alloc q1 _
    have k2 : W1.cell? ⟨w.heap.size + 1, 0, none⟩ = some (.string t) := by rw [hW1]; exact cell_alloc q2 _
    have k3 : W1.cell? ⟨w.heap.size + 2, 0, none⟩ = some (Pt e.fb) := by have := cell_new W0 (Pt e.fb) 53; rw [hW1, ← hsz0]; exact this
    obtain ⟨p0, p1, p2, _⟩ := d1.cell
    obtain ⟨c0, c1⟩ := (d1.hf e he).cell
    obtain ⟨a, cap, hv, hcap⟩ := slice_form fe.row
    rw [hv] at c0
    have l1 := World.block_lt_of_cell? W1 _ k1
    have l2 := World.block_lt_of_cell? W1 _ k2
    have l3 := World.block_lt_of_cell? W1 _ k3
    by_cases hbig : e.da.length + t.size ≤ 268435456
    · have t1 : ¬ (268435456 - (e.da.length : Int) < (t.size : Int)) := by omega
      by_cases hful : used es + t.size ≤ c.cap
      · have t2 : ¬ ((c.cap : Int) - (used es : Int) < (t.size : Int)) := by omega
        obtain ⟨x, hx⟩ : ∃ x, x = okE c := ⟨_, rfl⟩
        have hR0 := h4 e hf hc hbig hful
        rw [← hx] at hR0
        have hR := Hid.mk hR0
        have hWr := write_ok W1.drew.drew (d1.below ⟨rfl, rfl, rfl, Nat.le_refl _, fun _ _ => rfl⟩) true 30 #[Pt (w.heap.size + 2), Pt (w.heap.size + 1), Pt w.heap.size] (fun W => by kernel_rfl) (fun W => ∃ v, Step w W p mb es (modE es { e with da := e.da ++ t.data.toList, v := v }) (tick c))
          (fun _ W dW sW0 => by
            have sW := undrew (undrew sW0)
            have lp := h.lt (k := p) (.inl rfl)
            have g : ∀ (k : Nat) (v : Value), w.heap.size ≤ k → k < W1.heap.size → W1.cell? ⟨k, 0, none⟩ = some v → W.cell? ⟨k, 0, none⟩ = some v := fun k v hk hk2 hv => by
              rw [World.cell?_of_block (sW.block k hk2 (fun e1 => by omega))]; exact hv
            have nf : ∀ k, k = w.heap.size ∨ k = w.heap.size + 2 ∨ k = w.heap.size + 1 → ¬ Foot p mb es k := fun k hk hF => by have := h.lt hF; omega
            refine (append1_any e t (w.heap.size + 2) (w.heap.size + 1) w.heap.size W dW he (g _ _ (by omega) l1 k1) (g _ _ (by omega) l3 k3) (g _ _ (by omega) l2 k2) nf hbig hful).mono ?_
            rintro r w' ⟨rfl, v, dk, st, hloc⟩
            have hs1 := hb1.size
            have hs2 := sW.size
            exact ⟨rfl, v, dk, stay_foot he hb1 (Stay.mono sW fun k _ hk => hk) st, foot_mod he rfl fun k hk => (hloc k hk).imp id fun h => by omega⟩)
          (fun hl => by cases hl)
          (fun W hQ => by obtain ⟨v, hQ⟩ := hQ; exact hQ.dk.cell.2.2.2.1) x hx
        have hmf := hmf
        clear h1 h2 h3 h4 hR0 hx hf q1 q2
        rw [hW0] at hk
        go_enter Tryz.func10, Tryz.ntmps10
        go_wp2_with fail
        refine hk.mono ?_
        rintro r w' ⟨rfl, rfl⟩
        go_wp2
        rw [← hW0, ← hW1]
        clear hW1 hW0
        go_region
        go_wp2
        go_region
        go_wp2_with fail
        refine hWr.mono ?_
        rintro r w2 ⟨rfl, v, q2⟩
        go_wp2
        exact hR.out _ _ q2
      · have t2 : (c.cap : Int) - (used es : Int) < (t.size : Int) := by omega
        have hR := Hid.mk (h3 e hf hc hbig (by omega) W1.drew.drew (step_alloc h (hb1.drew.drew)))
        clear h1 h2 h3 h4 hf q1 q2
        rw [hW0] at hk
        go_enter Tryz.func10, Tryz.ntmps10
        go_wp2_with fail
        refine hk.mono ?_
        rintro r w' ⟨rfl, rfl⟩
        go_wp2
        rw [← hW0, ← hW1]
        clear hW1 hW0
        go_region
        go_wp2
        go_region
        go_wp2
        exact hR.out
    · have t1 : 268435456 - (e.da.length : Int) < (t.size : Int) := by omega
      have hR := Hid.mk (h2 e hf hc (by omega) W1.drew (step_alloc h (hb1.drew)))
      clear h1 h2 h3 h4 hf q1 q2
      rw [hW0] at hk
      go_enter Tryz.func10, Tryz.ntmps10
      go_wp2_with fail
      refine hk.mono ?_
      rintro r w' ⟨rfl, rfl⟩
      go_wp2
      rw [← hW0, ← hW1]
      clear hW1 hW0
      go_region
      go_wp2
      exact hR.out
  · rw [find_none hc] at hk
    have hR0 := h1 hc
    have hb1 : Below w.heap.size w (W0.alloc (.cells #[.pointer none] 53)) := hb0.alloc hb0.size _
    have hR := Hid.mk (hR0 _ (step_alloc h hb1))
    rw [hW0] at hR hk
    generalize fdE es c s.data.toList = x at *
    clear h1 h2 h3 h4 hR0 q1 q2
    go_enter Tryz.func10, Tryz.ntmps10
    go_wp2_with fail
    refine hk.mono ?_
    rintro r w' ⟨rfl, rfl⟩
    go_wp2
    exact hR.out
end Go.Proofs.YtfijjlkhgelmoaaGreatDoor.Dk
set_option linter.unusedVariables false
set_option linter.unusedSimpArgs false
set_option linter.unnecessarySimpa false
namespace Go.Proofs.YtfijjlkhgelmoaaGreatDoor.Dk
open Go.RowKit Go.Maps Go.Proofs.DiskMath
/-- The files behind a rename. -/
def renE (es : List Ent) (e : Ent) (to : List UInt8) : List Ent := insE { e with nm := to } (delE (delE es e.nm) to)
theorem delE_len {es : List Ent} (hs : Srt es) {e : Ent} (he : e ∈ es) : (delE es e.nm).length + 1 = es.length := by
  induction es with
  | nil => cases he
  | cons z r ih =>
    have h1 := List.pairwise_cons.1 hs
    by_cases hz : z.nm = e.nm
    · have := Srt.uniq hs (List.mem_cons_self ..) he hz
      subst this
      have e2 : delE (z :: r) z.nm = r := by
        unfold delE
        rw [List.filter_cons_of_neg (by simp)]
        refine List.filter_eq_self.2 fun a ha => ?_
        have := h1.1 a ha
        simp only [Bool.not_eq_true', beq_eq_false_iff_ne]
        intro he; rw [he] at this; exact List.lt_irrefl _ this
      rw [e2]; rfl
    · have e2 : delE (z :: r) e.nm = z :: delE r e.nm := by
        unfold delE; rw [List.filter_cons_of_pos (by simp [hz])]
      rcases List.mem_cons.1 he with rfl | he
      · exact absurd rfl hz
      · rw [e2, List.length_cons, ih h1.2 he, List.length_cons]
theorem renE_mem {es : List Ent} {e x : Ent} {to : List UInt8} (h : x ∈ renE es e to) : x = { e with nm := to } ∨ (x ∈ es ∧ x.nm ≠ e.nm ∧ x.nm ≠ to) := by
  rcases insE_mem.1 h with h | h
  · exact .inl h
  · exact .inr ⟨(delE_mem.1 (delE_mem.1 h).1).1, (delE_mem.1 (delE_mem.1 h).1).2, (delE_mem.1 h).2⟩
/-- How many bytes the one has that must give way. -/
def goneE (es : List Ent) (e : Ent) (to : List UInt8) : Nat := match findE (delE es e.nm) to with | some g => g.da.length | none => 0
theorem used_ren {es : List Ent} (hs : Srt es) {e : Ent} (he : e ∈ es) (to : List UInt8) : used (renE es e to) + goneE es e to = used es := by
  have h1 := used_del hs he
  unfold renE goneE
  rw [used_ins]
  cases hf : findE (delE es e.nm) to with
  | none => rw [delE_of_none hf]; dsimp only; omega
  | some g =>
    have hg := findE_mem hf
    have h2 := used_del (hs.del e.nm) hg.1
    rw [hg.2] at h2
    dsimp only
    omega
theorem DK.ren {w W : World} {p mb n : Nat} {es : List Ent} {c : Ctl} (h : DK w p mb es c) {e : Ent} (he : e ∈ es) (to : List UInt8) (hto : isNm to = true) (s : Stay (fun k => k = p ∨ k = mb) w W) (hm : W.ownsMap Tryz.prog 9 ptrE mb n (dmap (renE es e to)))
    (hp : W.heap[p]? = some (.cells #[.map (some mb), .int .i64 c.cap, .int .i64 (used (renE es e to)), .bool c.off, .int .i64 c.left, .bool c.dn, .int .i64 c.age, .int .i64 c.wr] 52 (0, 0))) : DK W p mb (renE es e to) c := by
  have hu := used_ren h.srt he to
  have hf := h.full
  have hl : (renE es e to).length ≤ es.length := by
    unfold renE
    rw [insE_len]
    have := delE_len h.srt he
    have h2 := List.length_filter_le (fun x : Ent => !(x.nm == to)) (delE es e.nm)
    show (delE (delE es e.nm) to).length + 1 ≤ _
    unfold delE at *
    omega
  refine h.remap s hm (fun x hx => ?_) ?_ ?_ (fun x hx => ?_) (Nat.le_trans hl h.many) (by omega) hp
  · rcases renE_mem hx with rfl | ⟨hx, _⟩
    · exact ⟨e, he, rfl, rfl, rfl, rfl⟩
    · exact ⟨x, hx, rfl, rfl, rfl, rfl⟩
  · unfold renE
    refine ((insE_perm _ _).pairwise_iff ?_).2 (List.pairwise_cons.2 ⟨fun x hx => ?_, (h.sep.filter _).filter _⟩)
    · exact fun {a b} hab => ⟨Ne.symm hab.1, fun k hb ha => hab.2 k ha hb⟩
    · have hx1 := (delE_mem.1 (delE_mem.1 hx).1)
      have := h.apart he hx1.1 (Ne.symm hx1.2)
      exact ⟨fun e1 => this e.fb (.inl rfl) (.inl e1), fun k h1 h2 => this k (.inr h1) (.inr h2)⟩
  · unfold renE
    exact ((h.srt.del _).del _).ins (fun x hx => (delE_mem.1 hx).2)
  · rcases renE_mem hx with rfl | ⟨hx, _⟩
    · exact hto
    · exact h.nms x hx
theorem store_any {w : World} {mb n : Nat} {es : List Ent} (h : w.ownsMap Tryz.prog 9 ptrE mb n (dmap es)) (hn : n ≤ 4096) (s : ByteArray) (hs : s.size ≤ 32) (x : Ent) (hx : x.nm = s.data.toList) :
    ∃ w', (Instr.mapUpdate 50 (.map (some mb)) (.string s) (Pt x.fb)).run Tryz.prog w = .ok () w' ∧ Put w w' mb (n + 1) (insE x (delE es x.nm)) := by
  obtain ⟨w', h1, h2, h3, h4⟩ := store_eq h hn s hs x hx
  exact ⟨w', h1, h2, h3, h4⟩
theorem ren_fin {w W w3 w4 : World} {p mb n : Nat} {es : List Ent} {c : Ctl} {e : Ent} {to : List UInt8} (h : DK w p mb es c) (he : e ∈ es) (hto : isNm to = true) (s : Stay (fun k => k = p ∨ k = mb) w W)
    (hp : W.heap[p]? = some (.cells #[.map (some mb), .int .i64 c.cap, .int .i64 (used (renE es e to)), .bool c.off, .int .i64 c.left, .bool c.dn, .int .i64 c.age, .int .i64 c.wr] 52 (0, 0)))
    (b : Below W.heap.size W w3) (m : Put w3 w4 mb n (insE { e with nm := to } (delE (delE es e.nm) to))) : DK w4 p mb (renE es e to) c ∧ Stay (fun k => k = p ∨ k = mb) w w4 := by
  have s3 : Stay (fun k => k = p ∨ k = mb) w w4 := (s.trans (.below b)).trans (.grown m.2.1 (fun k hk => .inr (Option.some.inj hk).symm))
  have lp : p < W.heap.size := (Array.getElem?_eq_some_iff.1 hp).1
  refine ⟨h.ren he to hto s3 m.1 ?_, s3⟩
  rw [m.2.1.block p (Nat.lt_of_lt_of_le lp b.size) (fun e1 => h.p_mb (Option.some.inj e1).symm), b.block p lp]
  exact hp
end Go.Proofs.YtfijjlkhgelmoaaGreatDoor.Dk
