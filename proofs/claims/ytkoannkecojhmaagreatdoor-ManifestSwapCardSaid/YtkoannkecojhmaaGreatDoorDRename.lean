/-
  DERIVED. Rename: what the closure does.
-/
import Derived.Test.YtkoannkecojhmaaGreatDoorDDelete
import Derived.Test.YtkoannkecojhmaaGreatDoorDCreate
set_option linter.unusedVariables false
set_option linter.unusedSimpArgs false
set_option linter.unnecessarySimpa false
namespace Go.Proofs.YtkoannkecojhmaaGreatDoor
open Go.RowKit Go.Maps Go.Proofs.DiskMath
/-- The files behind a rename. -/
def renE (es : List Ent) (e : Ent) (to : List UInt8) : List Ent := insE { e with nm := to } (delE (delE es e.nm) to)
theorem delE_len {es : List Ent} (hs : Srt es) {e : Ent} (he : e ∈ es) : (delE es e.nm).length + 1 = es.length := by
  induction es with
  | nil => cases he
  | cons z r ih =>
    have h1 := List.pairwise_cons.1 hs
    by_cases hz : z.nm = e.nm
    · have := Srt.uniq hs (List.mem_cons_self ..) he hz
      subst this
      have e2 : delE (z :: r) z.nm = r := by
        unfold delE
        rw [List.filter_cons_of_neg (by simp)]
        refine List.filter_eq_self.2 fun a ha => ?_
        have := h1.1 a ha
        simp only [Bool.not_eq_true', beq_eq_false_iff_ne]
        intro he; rw [he] at this; exact List.lt_irrefl _ this
      rw [e2]; rfl
    · have e2 : delE (z :: r) e.nm = z :: delE r e.nm := by
        unfold delE; rw [List.filter_cons_of_pos (by simp [hz])]
      rcases List.mem_cons.1 he with rfl | he
      · exact absurd rfl hz
      · rw [e2, List.length_cons, ih h1.2 he, List.length_cons]
theorem renE_mem {es : List Ent} {e x : Ent} {to : List UInt8} (h : x ∈ renE es e to) : x = { e with nm := to } ∨ (x ∈ es ∧ x.nm ≠ e.nm ∧ x.nm ≠ to) := by
  rcases insE_mem.1 h with h | h
  · exact .inl h
  · exact .inr ⟨(delE_mem.1 (delE_mem.1 h).1).1, (delE_mem.1 (delE_mem.1 h).1).2, (delE_mem.1 h).2⟩
/-- How many bytes the one has that must give way. -/
def goneE (es : List Ent) (e : Ent) (to : List UInt8) : Nat := match findE (delE es e.nm) to with | some g => g.da.length | none => 0
theorem used_ren {es : List Ent} (hs : Srt es) {e : Ent} (he : e ∈ es) (to : List UInt8) : used (renE es e to) + goneE es e to = used es := by
  have h1 := used_del hs he
  unfold renE goneE
  rw [used_ins]
  cases hf : findE (delE es e.nm) to with
  | none => rw [delE_of_none hf]; dsimp only; omega
  | some g =>
    have hg := findE_mem hf
    have h2 := used_del (hs.del e.nm) hg.1
    rw [hg.2] at h2
    dsimp only
    omega
theorem DK.ren {w W : World} {p mb n : Nat} {es : List Ent} {c : Ctl} (h : DK w p mb es c) {e : Ent} (he : e ∈ es) (to : List UInt8) (hto : isNm to = true) (s : Stay (fun k => k = p ∨ k = mb) w W) (hm : W.ownsMap Tryz.prog 9 ptrE mb n (dmap (renE es e to)))
    (hp : W.heap[p]? = some (.cells #[.map (some mb), .int .i64 c.cap, .int .i64 (used (renE es e to)), .bool c.off, .int .i64 c.left, .bool c.dn, .int .i64 c.age, .int .i64 c.wr] 75 (0, 0))) : DK W p mb (renE es e to) c := by
  have hu := used_ren h.srt he to
  have hf := h.full
  have hl : (renE es e to).length ≤ es.length := by
    unfold renE
    rw [insE_len]
    have := delE_len h.srt he
    have h2 := List.length_filter_le (fun x : Ent => !(x.nm == to)) (delE es e.nm)
    show (delE (delE es e.nm) to).length + 1 ≤ _
    unfold delE at *
    omega
  refine h.remap s hm (fun x hx => ?_) ?_ ?_ (fun x hx => ?_) (Nat.le_trans hl h.many) (by omega) hp
  · rcases renE_mem hx with rfl | ⟨hx, _⟩
    · exact ⟨e, he, rfl, rfl, rfl, rfl⟩
    · exact ⟨x, hx, rfl, rfl, rfl, rfl⟩
  · unfold renE
    refine ((insE_perm _ _).pairwise_iff ?_).2 (List.pairwise_cons.2 ⟨fun x hx => ?_, (h.sep.filter _).filter _⟩)
    · exact fun {a b} hab => ⟨Ne.symm hab.1, fun k hb ha => hab.2 k ha hb⟩
    · have hx1 := (delE_mem.1 (delE_mem.1 hx).1)
      have := h.apart he hx1.1 (Ne.symm hx1.2)
      exact ⟨fun e1 => this e.fb (.inl rfl) (.inl e1), fun k h1 h2 => this k (.inr h1) (.inr h2)⟩
  · unfold renE
    exact ((h.srt.del _).del _).ins (fun x hx => (delE_mem.1 hx).2)
  · rcases renE_mem hx with rfl | ⟨hx, _⟩
    · exact hto
    · exact h.nms x hx
theorem store_any {w : World} {mb n : Nat} {es : List Ent} (h : w.ownsMap Tryz.prog 9 ptrE mb n (dmap es)) (hn : n ≤ 4096) (s : ByteArray) (hs : s.size ≤ 32) (x : Ent) (hx : x.nm = s.data.toList) :
    ∃ w', (Instr.mapUpdate 73 (.map (some mb)) (.string s) (Pt x.fb)).run Tryz.prog w = .ok () w' ∧ Put w w' mb (n + 1) (insE x (delE es x.nm)) := by
  obtain ⟨w', h1, h2, h3, h4⟩ := store_eq h hn s hs x hx
  exact ⟨w', h1, h2, h3, h4⟩
theorem ren_fin {w W w3 w4 : World} {p mb n : Nat} {es : List Ent} {c : Ctl} {e : Ent} {to : List UInt8} (h : DK w p mb es c) (he : e ∈ es) (hto : isNm to = true) (s : Stay (fun k => k = p ∨ k = mb) w W)
    (hp : W.heap[p]? = some (.cells #[.map (some mb), .int .i64 c.cap, .int .i64 (used (renE es e to)), .bool c.off, .int .i64 c.left, .bool c.dn, .int .i64 c.age, .int .i64 c.wr] 75 (0, 0)))
    (b : Below W.heap.size W w3) (m : Put w3 w4 mb n (insE { e with nm := to } (delE (delE es e.nm) to))) : DK w4 p mb (renE es e to) c ∧ Stay (fun k => k = p ∨ k = mb) w w4 := by
  have s3 : Stay (fun k => k = p ∨ k = mb) w w4 := (s.trans (.below b)).trans (.grown m.2.1 (fun k hk => .inr (Option.some.inj hk).symm))
  have lp : p < W.heap.size := (Array.getElem?_eq_some_iff.1 hp).1
  refine ⟨h.ren he to hto s3 m.1 ?_, s3⟩
  rw [m.2.1.block p (Nat.lt_of_lt_of_le lp b.size) (fun e1 => h.p_mb (Option.some.inj e1).symm), b.block p lp]
  exact hp
set_option maxHeartbeats 4000000 in
set_option maxRecDepth 100000 in
theorem rename1_any {p mb : Nat} {es : List Ent} {c : Ctl} (e : Ent) (s t : ByteArray) (bd bo bt bf : Nat) (w : World) (h : DK w p mb es c) (he : e ∈ es) (hs : s.size ≤ 32) (hnm : e.nm = s.data.toList) (ht : t.size ≤ 32) (hto : isNm t.data.toList = true)
    (hd : w.cell? ⟨bd, 0, none⟩ = some (Pt p)) (hf : w.cell? ⟨bf, 0, none⟩ = some (Pt e.fb)) (hn : w.cell? ⟨bo, 0, none⟩ = some (.string s)) (hn2 : w.cell? ⟨bt, 0, none⟩ = some (.string t)) (nf : ∀ k, k = bd ∨ k = bt ∨ k = bf → ¬ Foot p mb es k) :
    Calls Tryz.prog 76 #[Pt bd, Pt bo, Pt bt, Pt bf] w fun r w' => r = .returned (.tuple #[]) ∧ DK w' p mb (renE es e t.data.toList) c ∧ Stay (fun k => k = p ∨ k = mb) w w' := by
  have fe := h.hf e he
  obtain ⟨p0, p1, p2, _⟩ := h.cell
  have hfl := h.full
  have hcp := h.cap
  obtain ⟨w1, hr1, m1, g1, s1⟩ := drop_eq (w := w.drew) 0 h.hm s hs
  rw [← hnm] at m1
  have b0 := cell_grown g1 p0 (cell_map h.hm p0 rfl)
  have b1 := cell_grown g1 hd (cell_map h.hm hd rfl)
  have b2 := cell_grown g1 hf (cell_map h.hm hf rfl)
  have b3 := cell_grown g1 p2 (cell_map h.hm p2 rfl)
  have b4 := cell_grown g1 hn2 (cell_map h.hm hn2 rfl)
  have hp1 : w1.heap[p]? = _ := (g1.block p (h.lt (.inl rfl)) (fun e1 => h.p_mb (Option.some.inj e1).symm)).trans h.hp
  have z2 : w1.frozen? ⟨p, 2, none⟩ = false := by simp [World.frozen?, hp1]
  have n1 : bd ≠ p := fun e1 => nf bd (.inl rfl) (.inl e1)
  have n2 : bt ≠ p := fun e1 => nf bt (.inr (.inl rfl)) (.inl e1)
  have n3 : bf ≠ p := fun e1 => nf bf (.inr (.inr rfl)) (.inl e1)
  have hl : (Instr.lookup 73 (.map (some mb)) (.string t) false).run Tryz.prog w1.drew = .ok (ptrOf (delE es e.nm) t.data.toList) w1.drew := by
    obtain ⟨v, ps, hr, hv⟩ := World.ownsMap.lookup (w := w1.drew) m1 law9 Tryz.underlying73 (zeroP _) (zd := .nil) (zp := []) rfl (WideMaps.keyOf_string_mk Tryz.underlying9 (s := t) (by unfold maxLen; omega))
    rw [hr]
    rw [dmap_at] at hv
    unfold ptrOf
    cases hf : findE (delE es e.nm) t.data.toList with
    | none => rw [hf] at hv; rw [ptrE_nil hv]
    | some e => rw [hf] at hv; rw [ptrE_block hv]
  have hu := used_ren h.srt he t.data.toList
  have sw1 : Stay (fun k => k = p ∨ k = mb) w w1 := undrew (Stay.grown g1 (fun k hk => .inr (Option.some.inj hk).symm))
  have HN : Hid (e.nm = s.data.toList) := hnm
  clear hnm
  cases hff : findE (delE es e.nm) t.data.toList with
  | none =>
    have HF : Hid (goneE es e t.data.toList = 0) := by show _ = _; unfold goneE; rw [hff]
    rw [show ptrOf (delE es e.nm) t.data.toList = .pointer none by unfold ptrOf; rw [hff]] at hl
    have hpW : w1.heap[p]? = some (.cells #[.map (some mb), .int .i64 c.cap, .int .i64 (used (renE es e t.data.toList)), .bool c.off, .int .i64 c.left, .bool c.dn, .int .i64 c.age, .int .i64 c.wr] 75 (0, 0)) := by
      rw [show used (renE es e t.data.toList) = used es by have := HF.out; omega]; exact hp1
    obtain ⟨W, hW⟩ : ∃ W, W = w1 := ⟨_, rfl⟩
    have q0 : W.cell? ⟨p, 0, none⟩ = some (.map (some mb)) := by rw [hW]; exact b0
    have q1 : W.cell? ⟨bd, 0, none⟩ = some (Pt p) := by rw [hW]; exact b1
    have q2 : W.cell? ⟨bt, 0, none⟩ = some (.string t) := by rw [hW]; exact b4
    have q3 : W.cell? ⟨bf, 0, none⟩ = some (Pt e.fb) := by rw [hW]; exact b2
    have l0 := World.block_lt_of_cell? W _ q0
    have l1 := World.block_lt_of_cell? W _ q1
    have l2 := World.block_lt_of_cell? W _ q2
    have l3 := World.block_lt_of_cell? W _ q3
    have mW : W.ownsMap Tryz.prog 9 ptrE mb es.length (dmap (delE es e.nm)) := by rw [hW]; exact m1
    have sW : Stay (fun k => k = p ∨ k = mb) w W := by rw [hW]; exact sw1
    rw [← hW] at hpW
    clear hff hu
    go_enter Tryz.func76, Tryz.ntmps76
    go_wp2
    go_region
    · go_wp2
      go_region
      rw [← hW] at *
      clear hl hr1 b0 b1 b2 b3 b4 p0 p1 p2 hd hf hn hn2 hW
      go_wp2
      go_region_with (go_at_call 72; refine (clone_any t _ (by omega)).mono ?_; rintro e' w3 ⟨rfl, b3⟩; have bw : Below W.heap.size W w3 := by {first | exact ⟨b3.os, b3.tape, b3.output, b3.size, b3.block⟩}; have d' := (bw.cell (p := ⟨bd, 0, none⟩) l1).trans q1; have t' := (bw.cell (p := ⟨bt, 0, none⟩) l2).trans q2; have f' := (bw.cell (p := ⟨bf, 0, none⟩) l3).trans q3; have p' := (bw.cell (p := ⟨p, 0, none⟩) l0).trans q0; obtain ⟨w4, hu4, m4⟩ := store_any (map_kept mW (Stay.below (F := fun _ => False) bw) (fun h => h)) h.many t ht { e with nm := t.data.toList } rfl)
      all_goals
        go_wp2
        go_end0
        exact ⟨rfl, ren_fin h he hto sW hpW bw m4⟩
  | some g =>
    have hg := findE_mem hff
    have hgm := delE_mem.1 hg.1
    have fg := h.hf g hgm.1
    obtain ⟨c0, _⟩ := fg.cell
    obtain ⟨a, cap, hv, hcap⟩ := slice_form fg.row
    rw [hv] at c0
    have b5 := cell_grown g1 c0 (cell_map h.hm c0 rfl)
    have HF : Hid (goneE es e t.data.toList = g.da.length) := by show _ = _; unfold goneE; rw [hff]
    have hda := fg.da
    have hum := used_mem hgm.1
    rw [show ptrOf (delE es e.nm) t.data.toList = Pt g.fb by unfold ptrOf; rw [hff]] at hl
    obtain ⟨W, hW⟩ : ∃ W, W = w1.setCell ⟨p, 2, none⟩ (.int .i64 ((used es : Int) - (g.da.length : Int))) := ⟨_, rfl⟩
    have oth : ∀ k, k ≠ p → W.heap[k]? = w1.heap[k]? := fun k hk => by rw [hW]; exact Below.heap_setCell w1 ⟨p, 2, none⟩ _ k hk
    have hpW : W.heap[p]? = some (.cells #[.map (some mb), .int .i64 c.cap, .int .i64 (used (renE es e t.data.toList)), .bool c.off, .int .i64 c.left, .bool c.dn, .int .i64 c.age, .int .i64 c.wr] 75 (0, 0)) := by
      rw [show ((used (renE es e t.data.toList) : Nat) : Int) = (used es : Int) - (g.da.length : Int) by have := HF.out; omega, hW]
      exact heap_setCell_same w1 p 2 _ _ _ hp1
    have q0 : W.cell? ⟨p, 0, none⟩ = some (.map (some mb)) := by simp [World.cell?, hpW]
    have q1 : W.cell? ⟨bd, 0, none⟩ = some (Pt p) := (World.cell?_of_block (w := w1) (oth bd n1)).trans b1
    have q2 : W.cell? ⟨bt, 0, none⟩ = some (.string t) := (World.cell?_of_block (w := w1) (oth bt n2)).trans b4
    have q3 : W.cell? ⟨bf, 0, none⟩ = some (Pt e.fb) := (World.cell?_of_block (w := w1) (oth bf n3)).trans b2
    have l0 := World.block_lt_of_cell? W _ q0
    have l1 := World.block_lt_of_cell? W _ q1
    have l2 := World.block_lt_of_cell? W _ q2
    have l3 := World.block_lt_of_cell? W _ q3
    have sp : Stay (· = p) w1 W := by rw [hW]; exact (Stay.refl (· = p) w1).setCell (p := ⟨p, 2, none⟩) (fun _ => rfl) _
    have mW : W.ownsMap Tryz.prog 9 ptrE mb es.length (dmap (delE es e.nm)) := map_kept m1 sp h.p_mb
    have sW : Stay (fun k => k = p ∨ k = mb) w W := sw1.trans (sp.mono fun k _ hk => .inl hk)
    clear hff hu
    go_enter Tryz.func76, Tryz.ntmps76
    go_wp2
    go_region
    · go_wp2
      go_region
      go_wp2
      go_region
      rw [← hW]
      clear hl hr1 b0 b1 b2 b3 b4 b5 hW p0 p1 p2 hd hf hn hn2 c0
      go_wp2
      go_region_with (go_at_call 72; refine (clone_any t _ (by omega)).mono ?_; rintro e' w3 ⟨rfl, b3⟩; have bw : Below W.heap.size W w3 := by {first | exact ⟨b3.os, b3.tape, b3.output, b3.size, b3.block⟩}; have d' := (bw.cell (p := ⟨bd, 0, none⟩) l1).trans q1; have t' := (bw.cell (p := ⟨bt, 0, none⟩) l2).trans q2; have f' := (bw.cell (p := ⟨bf, 0, none⟩) l3).trans q3; have p' := (bw.cell (p := ⟨p, 0, none⟩) l0).trans q0; obtain ⟨w4, hu4, m4⟩ := store_any (map_kept mW (Stay.below (F := fun _ => False) bw) (fun h => h)) h.many t ht { e with nm := t.data.toList } rfl)
      all_goals
        go_wp2
        go_end0
        exact ⟨rfl, ren_fin h he hto sW hpW bw m4⟩
end Go.Proofs.YtkoannkecojhmaaGreatDoor
