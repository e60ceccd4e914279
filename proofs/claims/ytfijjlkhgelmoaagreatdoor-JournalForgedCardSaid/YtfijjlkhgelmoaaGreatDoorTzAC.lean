/-
  DERIVED. DClone, DCreate, DSync, as one text.
-/
import Derived.Test.YtfijjlkhgelmoaaGreatDoorTzAB
import Derived.Lib.UnsafeStr
import Derived.Lib.BufferWrite
import Derived.Laws.MakeOwn
namespace Go.Proofs.YtfijjlkhgelmoaaGreatDoor.Dk
open Go.RowKit
set_option maxHeartbeats 4000000 in
set_option maxRecDepth 100000 in
theorem lite_any (s : ByteArray) (w : World) (hs : s.size ≤ 65536) :
    Calls Tryz.prog 52 #[.string s] w fun e w' => e = .returned (.string s) ∧ Below w.heap.size w w' := by
  by_cases h0 : s.size = 0
  · obtain rfl : s = ⟨#[]⟩ := ByteArray.ext (Array.eq_empty_of_size_eq_zero h0)
    go_enter Tryz.func52, Tryz.ntmps52
    go_wp2
    go_ret
    exact ⟨rfl, Below.refl _ _⟩
  · obtain ⟨i0, hi, hz0, hz1, hz2⟩ := info_parts Tryz.info5
    obtain ⟨M, hM⟩ : ∃ M, M = madeCells (Value.int .u8 0).cells (((s.size : Nat) : Int).toNat * i0.size) := ⟨_, rfl⟩
    have hMs : M.size = s.size := by rw [hM, size_madeCells, hz1]; simp
    have hmk : ∀ W : World, (Instr.makeSlice 55 (.int .i64 (s.size : Int)) (.int .i64 (s.size : Int))).run Tryz.prog W = .ok (.slice (some ⟨W.heap.size, 0, none⟩) s.size s.size) (W.alloc (.cells M 5)) := fun W => by
      have h := run_make (P := Tryz.prog) W 55 5 i0 (.int .u8 0) Tryz.underlying55 hi hz0 .i64 .i64 (s.size : Int) (s.size : Int) (by omega) (by omega) (by rw [hz2]; omega) (by omega)
      rw [← hM] at h
      simpa using h
    clear hM
    have hcp := Lib.run_copy_row_string (P := Tryz.prog) (w.alloc (.cells M 5)) 55 9 3 5 w.heap.size 0 s.size s.size s M 5 Tryz.underlying55 (by rw [hi]; simp [hz1]) (heap_alloc_new w _) (Nat.le_refl _) (by omega)
    obtain ⟨Y, hY⟩ : ∃ Y, Y = (M.toList.take 0 ++ Lib.byteCells s.data.toList ++ M.toList.drop (0 + s.size)).toArray := ⟨_, rfl⟩
    rw [← hY] at hcp
    have hYl : Y.toList = Lib.byteCells s.data.toList := by
      rw [hY, List.toList_toArray, List.take_zero, List.nil_append, List.drop_of_length_le (by rw [Array.length_toList]; omega), List.append_nil]
    have hYs : Y.size = s.size := by rw [← Array.length_toList, hYl, Lib.byteCells_length, ← Lib.size_eq]
    have hgY : ((w.alloc (.cells M 5)).setRow w.heap.size Y).heap[w.heap.size]? = some (.cells Y 5 (0, 0)) := setRow_heap _ _ M _ 5 (0, 0) (heap_alloc_new w _)
    have hUS := Lib.run_unsafeString_row (P := Tryz.prog) ((w.alloc (.cells M 5)).setRow w.heap.size Y) 104 3 9 5 Tryz.underlying104 (by simp [Program.cellsOf, hi, hz1]) w.heap.size Y.size (by unfold World.shape?; rw [hgY]) s.data.toList (fun e => h0 (by rw [Lib.size_eq, e]; rfl)) (by rw [← Lib.size_eq]; omega) (by rw [← Lib.size_eq]; omega)
      (fun j x hx => Lib.cells_of_row hgY Y.size j _ (by rw [List.take_of_length_le (by rw [Array.length_toList]; exact Nat.le_refl _), hYl]; simp [Lib.byteCells, hx]))
    rw [← Lib.size_eq] at hUS
    clear hY
    go_enter Tryz.func52, Tryz.ntmps52
    go_wp2
    go_ret
    have hb2 : Below w.heap.size (w.alloc (.cells M 5)) ((w.alloc (.cells M 5)).setRow w.heap.size Y) := ⟨rfl, rfl, rfl, by simp, fun k hk => setRow_other _ _ _ _ (by omega)⟩
    exact ⟨rfl, Lib.below_freeze (((Below.refl _ w).alloc (Nat.le_refl _) _).trans hb2) (p := ⟨w.heap.size, 0, none⟩) (Nat.le_refl _) _⟩
theorem clone_any (s : ByteArray) (w : World) (hs : s.size ≤ 65536) :
    Calls Tryz.prog 23 #[.string s] w fun e w' => e = .returned (.string s) ∧ Below w.heap.size w w' := by
  go_enter Tryz.func23, Tryz.ntmps23
  go_wp2_with fail
  refine (lite_any s _ hs).mono ?_
  rintro e w1 ⟨rfl, b1⟩
  go_wp2
  go_ret
  exact ⟨rfl, b1⟩
end Go.Proofs.YtfijjlkhgelmoaaGreatDoor.Dk
namespace Go.Proofs.YtfijjlkhgelmoaaGreatDoor.Dk
open Go.RowKit Go.Maps Go.Proofs.DiskMath
/-- A store into the map. -/
theorem store_eq {w : World} {mb n : Nat} {es : List Ent} (h : w.ownsMap Tryz.prog 9 ptrE mb n (dmap es)) (hn : n ≤ 4096) (s : ByteArray) (hs : s.size ≤ 32) (x : Ent) (hx : x.nm = s.data.toList) :
    ∃ w', (Instr.mapUpdate 50 (.map (some mb)) (.string s) (Pt x.fb)).run Tryz.prog w = .ok () w' ∧ w'.ownsMap Tryz.prog 9 ptrE mb (n + 1) (dmap (insE x (delE es x.nm))) ∧ w.grownBy w' (some mb) ∧ w'.heap.size = w.heap.size := by
  obtain ⟨w', hr, ho, ht⟩ := h.store (e := 53) law9 Tryz.underlying50 (by unfold maxLen; omega) (WideMaps.keyOf_string_mk Tryz.underlying9 (s := s) (by unfold maxLen; omega)) (ptrE_mk x.fb)
  refine ⟨w', hr, ?_, ht.grown, ?_⟩
  · rw [← hx, dmap_put] at ho; exact ho
  · obtain ⟨_, _, _, _, _, rfl⟩ := ht; simp [ChangeMaps.setBlock]
theorem insE_len (x : Ent) (es : List Ent) : (insE x es).length = es.length + 1 := (insE_perm x es).length_eq.trans (by simp)
/-- A disk with a file more. -/
theorem DK.ins {w W : World} {p mb : Nat} {es : List Ent} {c : Ctl} (h : DK w p mb es c) (x : Ent) (hno : findE es x.nm = none) (hnm : isNm x.nm = true) (hlen : es.length < 4096) (s : Stay (· = mb) w W)
    (hm : W.ownsMap Tryz.prog 9 ptrE mb (es.length + 1) (dmap (insE x (delE es x.nm)))) (hx : FileAt W x) (hda : x.da = []) (hfr : w.heap.size ≤ x.fb) (hv : x.v.ownBlock = none) : DK W p mb (insE x es) c := by
  rw [delE_of_none hno] at hm
  have hu : used (insE x es) = used es := by rw [used_ins, hda]; simp
  have hne : ∀ e ∈ es, e.nm ≠ x.nm := fun e he hh => by
    have := List.find?_eq_none.1 hno e he
    simp [hh] at this
  exact
  { hp := by rw [hu]; exact (s.block p (h.lt (.inl rfl)) (Ne.symm h.p_mb)).trans h.hp
    hm := by rw [insE_len]; exact hm
    hf := fun e he => by
      rcases insE_mem.1 he with rfl | he
      · exact hx
      · exact (h.hf e he).kept s fun k hk hkm => h.mb_foot he (hkm ▸ hk)
    sep := by
      refine ((insE_perm x es).pairwise_iff ?_).2 (List.pairwise_cons.2 ⟨fun e he => ⟨?_, ?_⟩, h.sep⟩)
      · exact fun {a b} hab => ⟨Ne.symm hab.1, fun k hb ha => hab.2 k ha hb⟩
      · have := h.lt (.inr (.inr ⟨e, he, .inl rfl⟩)); omega
      · intro k hk; rw [hv] at hk; cases hk
    srt := h.srt.ins hne
    nms := fun e he => by
      rcases insE_mem.1 he with rfl | he
      · exact hnm
      · exact h.nms e he
    many := by rw [insE_len]; omega
    full := by rw [hu]; exact h.full
    cap := h.cap
    left := h.left
    age := h.age
    wr := h.wr }
/-- A file that was made just now. -/
def newE (n : List UInt8) (fb : Nat) : Ent := ⟨n, [], 0, fb, .slice none 0 0⟩
theorem newE_at {w : World} {n : List UInt8} {fb : Nat} (h : w.heap[fb]? = some (.cells #[.slice none 0 0, .int .i64 0] 57 (0, 0))) : FileAt w (newE n fb) :=
  ⟨h, World.ownsRow_nil _ _ _ _, Nat.le_refl _, Nat.zero_le _⟩
theorem cell_alloc {w : World} {a : Addr} {v : Value} (h : w.cell? a = some v) (o : Obj) : (w.alloc o).cell? a = some v :=
  (((Below.refl w.heap.size w).alloc (Nat.le_refl _) o).cell (World.block_lt_of_cell? w _ h)).trans h
theorem below_after {w w1 : World} {o : Obj} (b : Below (w.alloc o).drew.heap.size (w.alloc o).drew w1) : Below w.heap.size w w1 :=
  (((Below.refl w.heap.size w).alloc (Nat.le_refl _) o).drew).trans (b.mono (by show w.heap.size ≤ (w.alloc o).heap.size; simp))
/-- What a store has done. -/
def Put (w w' : World) (mb n : Nat) (es : List Ent) : Prop := w'.ownsMap Tryz.prog 9 ptrE mb n (dmap es) ∧ w.grownBy w' (some mb) ∧ w'.heap.size = w.heap.size
theorem store_two {w1 : World} {p mb : Nat} {es : List Ent} {c : Ctl} (d1 : DK w1 p mb es c) (s : ByteArray) (hs : s.size ≤ 32) (H : Nat) :
    ∃ w2 w3, (Instr.mapUpdate 50 (.map (some mb)) (.string s) (.pointer (some ⟨w1.heap.size, 0, none⟩))).run Tryz.prog (w1.alloc (.cells #[.slice none 0 0, .int .i64 0] 57)) = .ok () w2 ∧
      (Instr.mapUpdate 50 (.map (some mb)) (.string s) (.pointer (some ⟨H, 0, none⟩))).run Tryz.prog w1 = .ok () w3 ∧
      Put (w1.alloc (.cells #[.slice none 0 0, .int .i64 0] 57)) w2 mb (es.length + 1) (insE (newE s.data.toList w1.heap.size) (delE es s.data.toList)) ∧
      Put w1 w3 mb (es.length + 1) (insE (newE s.data.toList H) (delE es s.data.toList)) := by
  obtain ⟨w2, hu2, m2, g2, s2⟩ := store_eq (d1.hm.alloc (.cells #[.slice none 0 0, .int .i64 0] 57)) d1.many s hs (newE s.data.toList w1.heap.size) rfl
  obtain ⟨w3, hu3, m3, g3, s3⟩ := store_eq d1.hm d1.many s hs (newE s.data.toList H) rfl
  exact ⟨w2, w3, hu2, hu3, ⟨m2, g2, s2⟩, ⟨m3, g3, s3⟩⟩
theorem fin_a {w w1 w2 : World} {p mb : Nat} {es : List Ent} {c : Ctl} {n : List UInt8} (bw : Below w.heap.size w w1) (d1 : DK w1 p mb es c)
    (m : Put (w1.alloc (.cells #[.slice none 0 0, .int .i64 0] 57)) w2 mb (es.length + 1) (insE (newE n w1.heap.size) (delE es n))) (hno : findE es n = none) (hnm : isNm n = true) (hlen : es.length < 4096) :
    ∃ fb, w.heap.size ≤ fb ∧ DK w2 p mb (insE (newE n fb) es) c ∧ Stay (· = mb) w w2 := by
  have s2 : Stay (· = mb) w1 w2 := ((Stay.refl _ w1).alloc _).trans (.grown m.2.1 (by simp))
  refine ⟨w1.heap.size, bw.size, d1.ins (newE n w1.heap.size) hno hnm hlen s2 m.1 (newE_at ?_) rfl (Nat.le_refl _) rfl, (Stay.below bw).trans s2⟩
  have hne : w1.heap.size ≠ mb := fun e => by have := d1.hm.lt; omega
  rw [m.2.1.block w1.heap.size (by simp) (fun e => hne (Option.some.inj e))]
  exact heap_alloc_new w1 _
theorem fin_b {w w1 w2 : World} {p mb : Nat} {es : List Ent} {c : Ctl} {n : List UInt8} (b1 : Below (w.alloc (.cells #[.slice none 0 0, .int .i64 0] 57)).drew.heap.size (w.alloc (.cells #[.slice none 0 0, .int .i64 0] 57)).drew w1) (bw : Below w.heap.size w w1) (_d1 : DK w1 p mb es c) (hmb : mb < w.heap.size)
    (m : Put w1 w2 mb (es.length + 1) (insE (newE n w.heap.size) (delE es n))) (hno : findE es n = none) (hnm : isNm n = true) (hlen : es.length < 4096) (h : DK w p mb es c) :
    ∃ fb, w.heap.size ≤ fb ∧ DK w2 p mb (insE (newE n fb) es) c ∧ Stay (· = mb) w w2 := by
  have s2 : Stay (· = mb) w1 w2 := .grown m.2.1 (by simp)
  have s3 : Stay (· = mb) w w2 := (Stay.below bw).trans s2
  refine ⟨w.heap.size, Nat.le_refl _, h.ins (newE n w.heap.size) hno hnm hlen s3 m.1 (newE_at ?_) rfl (Nat.le_refl _) rfl, s3⟩
  have hlt : w.heap.size < (w.alloc (.cells #[.slice none 0 0, .int .i64 0] 57)).heap.size := by simp
  rw [m.2.1.block w.heap.size (Nat.lt_of_lt_of_le hlt b1.size) (fun e => by have := Option.some.inj e; omega), b1.block _ hlt]
  exact heap_alloc_new w _
set_option maxHeartbeats 4000000 in
set_option maxRecDepth 100000 in
theorem create1_any {p mb : Nat} {es : List Ent} {c : Ctl} (s : ByteArray) (bd bn : Nat) (w : World) (h : DK w p mb es c) (hd : w.cell? ⟨bd, 0, none⟩ = some (Pt p)) (hn : w.cell? ⟨bn, 0, none⟩ = some (.string s))
    (hno : findE es s.data.toList = none) (hs : s.size ≤ 32) (hnm : isNm s.data.toList = true) (hlen : es.length < 4096) :
    Calls Tryz.prog 22 #[Pt bd, Pt bn] w fun e w' => e = .returned (.tuple #[]) ∧ ∃ fb, w.heap.size ≤ fb ∧ DK w' p mb (insE (newE s.data.toList fb) es) c ∧ Stay (· = mb) w w' := by
  obtain ⟨h0, _⟩ := h.cell
  go_enter Tryz.func22, Tryz.ntmps22
  go_wp2
  have lbd : bd < w.heap.size := World.block_lt_of_cell? w _ hd
  have lbn : bn < w.heap.size := World.block_lt_of_cell? w _ hn
  have lp : p < w.heap.size := World.block_lt_of_cell? w _ h0
  have hmb := h.hm.lt
  have ad := fun o => cell_alloc hd o
  have an := fun o => cell_alloc hn o
  have a0 := fun o => cell_alloc h0 o
  go_region_with (go_at_call 23; refine (clone_any s _ (by omega)).mono ?_; rintro e w1 ⟨rfl, b1⟩; have bw : Below w.heap.size w w1 := by {first | exact ⟨b1.os, b1.tape, b1.output, b1.size, b1.block⟩ | exact below_after b1}; have d1 : DK w1 p mb es c := h.below bw; have d' := (bw.cell (p := ⟨bd, 0, none⟩) lbd).trans hd; have n' := (bw.cell (p := ⟨bn, 0, none⟩) lbn).trans hn; have p' := (bw.cell (p := ⟨p, 0, none⟩) lp).trans h0; have ad' := fun o => cell_alloc d' o; have an' := fun o => cell_alloc n' o; have a0' := fun o => cell_alloc p' o; obtain ⟨w2, w3, hu2, hu3, m2, m3⟩ := store_two d1 s hs w.heap.size)
  all_goals
    clear hd hn h0 ad an a0 d' n' p' ad' an' a0' hu2 hu3
    go_wp2
    go_end0
    first
      | exact ⟨rfl, fin_a bw d1 m2 hno hnm hlen⟩
      | exact ⟨rfl, fin_b b1 bw d1 hmb m3 hno hnm hlen h⟩
end Go.Proofs.YtfijjlkhgelmoaaGreatDoor.Dk
namespace Go.Proofs.YtfijjlkhgelmoaaGreatDoor.Dk
open Go.RowKit Go.Maps Go.Proofs.DiskMath
theorem FileAt.row_fb {w : World} {e : Ent} (h : FileAt w e) (k : Nat) (hk : e.v.ownBlock = some k) : k ≠ e.fb := fun e1 => by
  obtain ⟨cur, hc⟩ := row_block h.row hk
  rw [e1, h.cells] at hc
  simp at hc
theorem pair_sym {R : Ent → Ent → Prop} (hs : ∀ {x y}, R x y → R y x) : ∀ {l : List Ent}, l.Pairwise R → ∀ {a b : Ent}, a ∈ l → b ∈ l → a ≠ b → R a b
  | [], _, _, _, ha, _, _ => by cases ha
  | z :: r, h, a, b, ha, hb, hne => by
    have h1 := List.pairwise_cons.1 h
    rcases List.mem_cons.1 ha with ea | ha <;> rcases List.mem_cons.1 hb with eb | hb
    · exact absurd (ea.trans eb.symm) hne
    · rw [ea]; exact h1.1 b hb
    · rw [eb]; exact hs (h1.1 a ha)
    · exact pair_sym hs h1.2 ha hb hne
theorem DK.apart {w : World} {p mb : Nat} {es : List Ent} {c : Ctl} (h : DK w p mb es c) {a b : Ent} (ha : a ∈ es) (hb : b ∈ es) (hne : a.nm ≠ b.nm) : ∀ k, foot a k → ¬ foot b k := by
  have hsep : a.fb ≠ b.fb ∧ ∀ k, a.v.ownBlock = some k → b.v.ownBlock ≠ some k := by
    refine pair_sym (R := fun x y : Ent => x.fb ≠ y.fb ∧ ∀ k, x.v.ownBlock = some k → y.v.ownBlock ≠ some k) (fun h => ⟨Ne.symm h.1, fun k h1 h2 => h.2 k h2 h1⟩) h.sep ha hb (fun e => hne (by rw [e]))
  have fa := h.hf a ha
  have fb := h.hf b hb
  have key : ∀ {x y : Ent}, FileAt w x → FileAt w y → y.v.ownBlock ≠ some x.fb := fun hx hy he => by
    obtain ⟨cur, hc⟩ := row_block hy.row he
    rw [hx.cells] at hc
    simp at hc
  rintro k (rfl | h1) (h2 | h2)
  · exact hsep.1 h2
  · exact key fa fb h2
  · exact key fb fa (h2 ▸ h1)
  · exact hsep.2 k h1 h2
/-- A disk with one file other than it was. -/
theorem DK.mod {w W : World} {p mb : Nat} {es : List Ent} {c : Ctl} (h : DK w p mb es c) {e x : Ent} (he : e ∈ es) (hn : x.nm = e.nm) (hb : x.fb = e.fb) (s : Stay (fun k => k = p ∨ foot e k) w W) (hx : FileAt W x)
    (hr : ∀ k, x.v.ownBlock = some k → e.v.ownBlock = some k ∨ w.heap.size ≤ k) (hfull : used (modE es x) ≤ c.cap)
    (hp : W.heap[p]? = some (.cells #[.map (some mb), .int .i64 c.cap, .int .i64 (used (modE es x)), .bool c.off, .int .i64 c.left, .bool c.dn, .int .i64 c.age, .int .i64 c.wr] 52 (0, 0))) : DK W p mb (modE es x) c := by
  have hother : ∀ a ∈ es, a.nm ≠ x.nm → FileAt W a := fun a ha hne => (h.hf a ha).kept s fun k hk => by
    rintro (rfl | hk')
    · exact h.p_foot ha hk
    · exact h.apart ha he (by rw [← hn]; exact hne) k hk hk'
  exact
  { hp := hp
    hm := by
      rw [modE_len, dmap_mod h.srt he hn hb]
      exact map_kept h.hm s (by
        rintro (hk | hk)
        · exact h.p_mb hk
        · exact h.mb_foot he hk)
    hf := fun a ha => by
      rcases modE_mem ha with rfl | ⟨ha, hne⟩
      · exact hx
      · exact hother a ha hne
    sep := by
      unfold modE
      refine List.pairwise_map.2 (List.Pairwise.imp_of_mem (fun {a b} ha hbm hab => ?_) (h.srt.and h.sep))
      obtain ⟨hlt, hab⟩ := hab
      have new_old : ∀ y ∈ es, y.nm ≠ x.nm → ∀ k, x.v.ownBlock = some k → y.v.ownBlock ≠ some k := fun y hy hne k h1 h2 => by
        rcases hr k h1 with h3 | h3
        · exact h.apart he hy (by rw [← hn]; exact Ne.symm hne) k (.inr h3) (.inr h2)
        · have := h.lt (.inr (.inr ⟨y, hy, .inr h2⟩)); omega
      have nameNe : a.nm ≠ b.nm := fun e => by rw [e] at hlt; exact List.lt_irrefl _ hlt
      split <;> split
      · rename_i h1 h2; exact absurd (h1.trans h2.symm) nameNe
      · rename_i h1 h2
        have hae := h.srt.uniq ha he (h1.trans hn)
        exact ⟨by rw [hb, ← hae]; exact hab.1, new_old b hbm h2⟩
      · rename_i h1 h2
        have hbe := h.srt.uniq hbm he (h2.trans hn)
        exact ⟨by rw [hb, ← hbe]; exact hab.1, fun k h3 h4 => new_old a ha h1 k h4 h3⟩
      · exact hab
    srt := h.srt.mod x
    nms := fun a ha => by
      rcases modE_mem ha with rfl | ⟨ha, _⟩
      · rw [hn]; exact h.nms e he
      · exact h.nms a ha
    many := by rw [modE_len]; exact h.many
    full := hfull
    cap := h.cap
    left := h.left
    age := h.age
    wr := h.wr }
end Go.Proofs.YtfijjlkhgelmoaaGreatDoor.Dk
