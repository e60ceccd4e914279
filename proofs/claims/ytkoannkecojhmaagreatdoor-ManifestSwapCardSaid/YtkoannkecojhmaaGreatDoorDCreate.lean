/-
  DERIVED. Create.
-/
import Derived.Test.YtkoannkecojhmaaGreatDoorDClone
namespace Go.Proofs.YtkoannkecojhmaaGreatDoor
open Go.RowKit Go.Maps Go.Proofs.DiskMath
/-- A store into the map. -/
theorem store_eq {w : World} {mb n : Nat} {es : List Ent} (h : w.ownsMap Tryz.prog 9 ptrE mb n (dmap es)) (hn : n ≤ 4096) (s : ByteArray) (hs : s.size ≤ 32) (x : Ent) (hx : x.nm = s.data.toList) :
    ∃ w', (Instr.mapUpdate 73 (.map (some mb)) (.string s) (Pt x.fb)).run Tryz.prog w = .ok () w' ∧ w'.ownsMap Tryz.prog 9 ptrE mb (n + 1) (dmap (insE x (delE es x.nm))) ∧ w.grownBy w' (some mb) ∧ w'.heap.size = w.heap.size := by
  obtain ⟨w', hr, ho, ht⟩ := h.store (e := 86) law9 Tryz.underlying73 (by unfold maxLen; omega) (WideMaps.keyOf_string_mk Tryz.underlying9 (s := s) (by unfold maxLen; omega)) (ptrE_mk x.fb)
  refine ⟨w', hr, ?_, ht.grown, ?_⟩
  · rw [← hx, dmap_put] at ho; exact ho
  · obtain ⟨_, _, _, _, _, rfl⟩ := ht; simp [ChangeMaps.setBlock]
theorem insE_len (x : Ent) (es : List Ent) : (insE x es).length = es.length + 1 := (insE_perm x es).length_eq.trans (by simp)
/-- A disk with a file more. -/
theorem DK.ins {w W : World} {p mb : Nat} {es : List Ent} {c : Ctl} (h : DK w p mb es c) (x : Ent) (hno : findE es x.nm = none) (hnm : isNm x.nm = true) (hlen : es.length < 4096) (s : Stay (· = mb) w W)
    (hm : W.ownsMap Tryz.prog 9 ptrE mb (es.length + 1) (dmap (insE x (delE es x.nm)))) (hx : FileAt W x) (hda : x.da = []) (hfr : w.heap.size ≤ x.fb) (hv : x.v.ownBlock = none) : DK W p mb (insE x es) c := by
  rw [delE_of_none hno] at hm
  have hu : used (insE x es) = used es := by rw [used_ins, hda]; simp
  have hne : ∀ e ∈ es, e.nm ≠ x.nm := fun e he hh => by
    have := List.find?_eq_none.1 hno e he
    simp [hh] at this
  exact
  { hp := by rw [hu]; exact (s.block p (h.lt (.inl rfl)) (Ne.symm h.p_mb)).trans h.hp
    hm := by rw [insE_len]; exact hm
    hf := fun e he => by
      rcases insE_mem.1 he with rfl | he
      · exact hx
      · exact (h.hf e he).kept s fun k hk hkm => h.mb_foot he (hkm ▸ hk)
    sep := by
      refine ((insE_perm x es).pairwise_iff ?_).2 (List.pairwise_cons.2 ⟨fun e he => ⟨?_, ?_⟩, h.sep⟩)
      · exact fun {a b} hab => ⟨Ne.symm hab.1, fun k hb ha => hab.2 k ha hb⟩
      · have := h.lt (.inr (.inr ⟨e, he, .inl rfl⟩)); omega
      · intro k hk; rw [hv] at hk; cases hk
    srt := h.srt.ins hne
    nms := fun e he => by
      rcases insE_mem.1 he with rfl | he
      · exact hnm
      · exact h.nms e he
    many := by rw [insE_len]; omega
    full := by rw [hu]; exact h.full
    cap := h.cap
    left := h.left
    age := h.age
    wr := h.wr }
/-- A file that was made just now. -/
def newE (n : List UInt8) (fb : Nat) : Ent := ⟨n, [], 0, fb, .slice none 0 0⟩
theorem newE_at {w : World} {n : List UInt8} {fb : Nat} (h : w.heap[fb]? = some (.cells #[.slice none 0 0, .int .i64 0] 90 (0, 0))) : FileAt w (newE n fb) :=
  ⟨h, World.ownsRow_nil _ _ _ _, Nat.le_refl _, Nat.zero_le _⟩
theorem cell_alloc {w : World} {a : Addr} {v : Value} (h : w.cell? a = some v) (o : Obj) : (w.alloc o).cell? a = some v :=
  (((Below.refl w.heap.size w).alloc (Nat.le_refl _) o).cell (World.block_lt_of_cell? w _ h)).trans h
theorem below_after {w w1 : World} {o : Obj} (b : Below (w.alloc o).drew.heap.size (w.alloc o).drew w1) : Below w.heap.size w w1 :=
  (((Below.refl w.heap.size w).alloc (Nat.le_refl _) o).drew).trans (b.mono (by show w.heap.size ≤ (w.alloc o).heap.size; simp))
/-- What a store has done. -/
def Put (w w' : World) (mb n : Nat) (es : List Ent) : Prop := w'.ownsMap Tryz.prog 9 ptrE mb n (dmap es) ∧ w.grownBy w' (some mb) ∧ w'.heap.size = w.heap.size
theorem store_two {w1 : World} {p mb : Nat} {es : List Ent} {c : Ctl} (d1 : DK w1 p mb es c) (s : ByteArray) (hs : s.size ≤ 32) (H : Nat) :
    ∃ w2 w3, (Instr.mapUpdate 73 (.map (some mb)) (.string s) (.pointer (some ⟨w1.heap.size, 0, none⟩))).run Tryz.prog (w1.alloc (.cells #[.slice none 0 0, .int .i64 0] 90)) = .ok () w2 ∧
      (Instr.mapUpdate 73 (.map (some mb)) (.string s) (.pointer (some ⟨H, 0, none⟩))).run Tryz.prog w1 = .ok () w3 ∧
      Put (w1.alloc (.cells #[.slice none 0 0, .int .i64 0] 90)) w2 mb (es.length + 1) (insE (newE s.data.toList w1.heap.size) (delE es s.data.toList)) ∧
      Put w1 w3 mb (es.length + 1) (insE (newE s.data.toList H) (delE es s.data.toList)) := by
  obtain ⟨w2, hu2, m2, g2, s2⟩ := store_eq (d1.hm.alloc (.cells #[.slice none 0 0, .int .i64 0] 90)) d1.many s hs (newE s.data.toList w1.heap.size) rfl
  obtain ⟨w3, hu3, m3, g3, s3⟩ := store_eq d1.hm d1.many s hs (newE s.data.toList H) rfl
  exact ⟨w2, w3, hu2, hu3, ⟨m2, g2, s2⟩, ⟨m3, g3, s3⟩⟩
theorem fin_a {w w1 w2 : World} {p mb : Nat} {es : List Ent} {c : Ctl} {n : List UInt8} (bw : Below w.heap.size w w1) (d1 : DK w1 p mb es c)
    (m : Put (w1.alloc (.cells #[.slice none 0 0, .int .i64 0] 90)) w2 mb (es.length + 1) (insE (newE n w1.heap.size) (delE es n))) (hno : findE es n = none) (hnm : isNm n = true) (hlen : es.length < 4096) :
    ∃ fb, w.heap.size ≤ fb ∧ DK w2 p mb (insE (newE n fb) es) c ∧ Stay (· = mb) w w2 := by
  have s2 : Stay (· = mb) w1 w2 := ((Stay.refl _ w1).alloc _).trans (.grown m.2.1 (by simp))
  refine ⟨w1.heap.size, bw.size, d1.ins (newE n w1.heap.size) hno hnm hlen s2 m.1 (newE_at ?_) rfl (Nat.le_refl _) rfl, (Stay.below bw).trans s2⟩
  have hne : w1.heap.size ≠ mb := fun e => by have := d1.hm.lt; omega
  rw [m.2.1.block w1.heap.size (by simp) (fun e => hne (Option.some.inj e))]
  exact heap_alloc_new w1 _
theorem fin_b {w w1 w2 : World} {p mb : Nat} {es : List Ent} {c : Ctl} {n : List UInt8} (b1 : Below (w.alloc (.cells #[.slice none 0 0, .int .i64 0] 90)).drew.heap.size (w.alloc (.cells #[.slice none 0 0, .int .i64 0] 90)).drew w1) (bw : Below w.heap.size w w1) (_d1 : DK w1 p mb es c) (hmb : mb < w.heap.size)
    (m : Put w1 w2 mb (es.length + 1) (insE (newE n w.heap.size) (delE es n))) (hno : findE es n = none) (hnm : isNm n = true) (hlen : es.length < 4096) (h : DK w p mb es c) :
    ∃ fb, w.heap.size ≤ fb ∧ DK w2 p mb (insE (newE n fb) es) c ∧ Stay (· = mb) w w2 := by
  have s2 : Stay (· = mb) w1 w2 := .grown m.2.1 (by simp)
  have s3 : Stay (· = mb) w w2 := (Stay.below bw).trans s2
  refine ⟨w.heap.size, Nat.le_refl _, h.ins (newE n w.heap.size) hno hnm hlen s3 m.1 (newE_at ?_) rfl (Nat.le_refl _) rfl, s3⟩
  have hlt : w.heap.size < (w.alloc (.cells #[.slice none 0 0, .int .i64 0] 90)).heap.size := by simp
  rw [m.2.1.block w.heap.size (Nat.lt_of_lt_of_le hlt b1.size) (fun e => by have := Option.some.inj e; omega), b1.block _ hlt]
  exact heap_alloc_new w _
set_option maxHeartbeats 4000000 in
set_option maxRecDepth 100000 in
theorem create1_any {p mb : Nat} {es : List Ent} {c : Ctl} (s : ByteArray) (bd bn : Nat) (w : World) (h : DK w p mb es c) (hd : w.cell? ⟨bd, 0, none⟩ = some (Pt p)) (hn : w.cell? ⟨bn, 0, none⟩ = some (.string s))
    (hno : findE es s.data.toList = none) (hs : s.size ≤ 32) (hnm : isNm s.data.toList = true) (hlen : es.length < 4096) :
    Calls Tryz.prog 71 #[Pt bd, Pt bn] w fun e w' => e = .returned (.tuple #[]) ∧ ∃ fb, w.heap.size ≤ fb ∧ DK w' p mb (insE (newE s.data.toList fb) es) c ∧ Stay (· = mb) w w' := by
  obtain ⟨h0, _⟩ := h.cell
  go_enter Tryz.func71, Tryz.ntmps71
  go_wp2
  have lbd : bd < w.heap.size := World.block_lt_of_cell? w _ hd
  have lbn : bn < w.heap.size := World.block_lt_of_cell? w _ hn
  have lp : p < w.heap.size := World.block_lt_of_cell? w _ h0
  have hmb := h.hm.lt
  have ad := fun o => cell_alloc hd o
  have an := fun o => cell_alloc hn o
  have a0 := fun o => cell_alloc h0 o
  go_region_with (go_at_call 72; refine (clone_any s _ (by omega)).mono ?_; rintro e w1 ⟨rfl, b1⟩; have bw : Below w.heap.size w w1 := by {first | exact ⟨b1.os, b1.tape, b1.output, b1.size, b1.block⟩ | exact below_after b1}; have d1 : DK w1 p mb es c := h.below bw; have d' := (bw.cell (p := ⟨bd, 0, none⟩) lbd).trans hd; have n' := (bw.cell (p := ⟨bn, 0, none⟩) lbn).trans hn; have p' := (bw.cell (p := ⟨p, 0, none⟩) lp).trans h0; have ad' := fun o => cell_alloc d' o; have an' := fun o => cell_alloc n' o; have a0' := fun o => cell_alloc p' o; obtain ⟨w2, w3, hu2, hu3, m2, m3⟩ := store_two d1 s hs w.heap.size)
  all_goals
    clear hd hn h0 ad an a0 d' n' p' ad' an' a0' hu2 hu3
    go_wp2
    go_end0
    first
      | exact ⟨rfl, fin_a bw d1 m2 hno hnm hlen⟩
      | exact ⟨rfl, fin_b b1 bw d1 hmb m3 hno hnm hlen h⟩
end Go.Proofs.YtkoannkecojhmaaGreatDoor
