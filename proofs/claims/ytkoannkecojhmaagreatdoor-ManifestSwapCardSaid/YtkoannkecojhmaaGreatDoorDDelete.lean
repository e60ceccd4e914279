/-
  DERIVED. Delete: what the closure does.
-/
import Derived.Test.YtkoannkecojhmaaGreatDoorDAppend
set_option linter.unusedVariables false
set_option linter.unusedSimpArgs false
set_option linter.unnecessarySimpa false
namespace Go.Proofs.YtkoannkecojhmaaGreatDoor
open Go.RowKit Go.Maps Go.Proofs.DiskMath
theorem map_tight {w : World} {mb n : Nat} {es : List Ent} (h : w.ownsMap Tryz.prog 9 ptrE mb n (dmap es)) : w.ownsMap Tryz.prog 9 ptrE mb es.length (dmap es) := by
  obtain ⟨xs, cl, hb, F, _, hD⟩ := h
  refine ⟨xs, cl, hb, F, ?_, hD⟩
  have h1 := dmap_size es
  rw [hD] at h1
  simp only [Maps.size, length_sorted, List.length_map, Array.length_toList] at h1
  omega
/-- The same files, some gone, some with another name. -/
theorem DK.remap {w W : World} {p mb n : Nat} {es es2 : List Ent} {c : Ctl} (h : DK w p mb es c) (s : Stay (fun k => k = p ∨ k = mb) w W) (hm : W.ownsMap Tryz.prog 9 ptrE mb n (dmap es2))
    (hold : ∀ x ∈ es2, ∃ y ∈ es, x.fb = y.fb ∧ x.v = y.v ∧ x.da = y.da ∧ x.du = y.du) (hsep : es2.Pairwise fun a b => a.fb ≠ b.fb ∧ ∀ k, a.v.ownBlock = some k → b.v.ownBlock ≠ some k) (hsrt : Srt es2) (hnms : ∀ e ∈ es2, isNm e.nm = true) (hlen : es2.length ≤ 4096) (hfull : used es2 ≤ c.cap)
    (hp : W.heap[p]? = some (.cells #[.map (some mb), .int .i64 c.cap, .int .i64 (used es2), .bool c.off, .int .i64 c.left, .bool c.dn, .int .i64 c.age, .int .i64 c.wr] 75 (0, 0))) : DK W p mb es2 c :=
  { hp := hp
    hm := map_tight hm
    hf := fun x hx => by
      obtain ⟨y, hy, h1, h2, h3, h4⟩ := hold x hx
      have fy := (h.hf y hy).kept s fun k hk => by
        rintro (rfl | rfl)
        · exact h.p_foot hy hk
        · exact h.mb_foot hy hk
      exact ⟨by rw [h1, h2, h4]; exact fy.cells, by rw [h2, h3]; exact fy.row, by rw [h3, h4]; exact fy.du, by rw [h3]; exact fy.da⟩
    sep := hsep
    srt := hsrt
    nms := hnms
    many := hlen
    full := hfull
    cap := h.cap
    left := h.left
    age := h.age
    wr := h.wr }
theorem DK.del {w W : World} {p mb n : Nat} {es : List Ent} {c : Ctl} (h : DK w p mb es c) {e : Ent} (he : e ∈ es) (s : Stay (fun k => k = p ∨ k = mb) w W) (hm : W.ownsMap Tryz.prog 9 ptrE mb n (dmap (delE es e.nm)))
    (hp : W.heap[p]? = some (.cells #[.map (some mb), .int .i64 c.cap, .int .i64 (used (delE es e.nm)), .bool c.off, .int .i64 c.left, .bool c.dn, .int .i64 c.age, .int .i64 c.wr] 75 (0, 0))) : DK W p mb (delE es e.nm) c := by
  have hu := used_del h.srt he
  have hf := h.full
  refine h.remap s hm (fun x hx => ⟨x, (delE_mem.1 hx).1, rfl, rfl, rfl, rfl⟩) (h.sep.filter _) (h.srt.del _) (fun x hx => h.nms x (delE_mem.1 hx).1) (Nat.le_trans (List.length_filter_le _ _) h.many) (by omega) hp
/-- A key taken out of the map. -/
theorem drop_eq {w : World} {mb n : Nat} {es : List Ent} (ty : TypeId) (h : w.ownsMap Tryz.prog 9 ptrE mb n (dmap es)) (s : ByteArray) (hs : s.size ≤ 32) :
    ∃ w', (Builtin.delete_ #[73, 9] ty #[.map (some mb), .string s]).run Tryz.prog w = .ok (.tuple #[]) w' ∧ w'.ownsMap Tryz.prog 9 ptrE mb n (dmap (delE es s.data.toList)) ∧ w.grownBy w' (some mb) ∧ w'.heap.size = w.heap.size := by
  obtain ⟨w', hr, ho, ht⟩ := h.drop (e := 86) law9 Tryz.underlying73 (WideMaps.keyOf_string_mk Tryz.underlying9 (s := s) (by unfold maxLen; omega)) ty
  refine ⟨w', hr, ?_, ht.grown, ?_⟩
  · rw [dmap_del] at ho; exact ho
  · obtain ⟨_, _, _, _, _, rfl⟩ := ht; simp [ChangeMaps.setBlock]
theorem cell_grown {w w' : World} {mb : Nat} {a : Addr} {v : Value} (hg : w.grownBy w' (some mb)) (h : w.cell? a = some v) (hne : a.block ≠ mb) : w'.cell? a = some v := hg.cell h (fun e => hne (Option.some.inj e))
theorem cell_map {w : World} {mb n : Nat} {D : DataW Unit} (h : w.ownsMap Tryz.prog 9 ptrE mb n D) {a : Addr} {v : Value} (hc : w.cell? a = some v) (hsp : a.spot = none) : a.block ≠ mb := fun e => by
  obtain ⟨x, y, hb⟩ := map_block h
  simp [World.cell?, e, hb] at hc
set_option maxHeartbeats 4000000 in
set_option maxRecDepth 100000 in
theorem delete1_any {p mb : Nat} {es : List Ent} {c : Ctl} (e : Ent) (s : ByteArray) (bd bn bf : Nat) (w : World) (h : DK w p mb es c) (he : e ∈ es) (hs : s.size ≤ 32) (hnm : e.nm = s.data.toList) (hd : w.cell? ⟨bd, 0, none⟩ = some (Pt p)) (hf : w.cell? ⟨bf, 0, none⟩ = some (Pt e.fb)) (hn : w.cell? ⟨bn, 0, none⟩ = some (.string s)) :
    Calls Tryz.prog 82 #[Pt bd, Pt bn, Pt bf] w fun r w' => r = .returned (.tuple #[]) ∧ DK w' p mb (delE es e.nm) c ∧ Stay (fun k => k = p ∨ k = mb) w w' := by
  have fe := h.hf e he
  obtain ⟨c0, c1⟩ := fe.cell
  obtain ⟨p0, p1, p2, _⟩ := h.cell
  have hda := fe.da
  have hfl := h.full
  have hcp := h.cap
  have hum := used_mem he
  obtain ⟨a, cap, hv, hcap⟩ := slice_form fe.row
  rw [hv] at c0
  obtain ⟨w1, hr1, m1, g1, s1⟩ := drop_eq (w := w.drew) 0 h.hm s hs
  have b1 := cell_grown g1 hd (cell_map h.hm hd rfl)
  have b2 := cell_grown g1 hf (cell_map h.hm hf rfl)
  have b3 := cell_grown g1 p2 (cell_map h.hm p2 rfl)
  have b4 := cell_grown g1 c0 (cell_map h.hm c0 rfl)
  have hp1 : w1.heap[p]? = _ := (g1.block p (h.lt (.inl rfl)) (fun e1 => h.p_mb (Option.some.inj e1).symm)).trans h.hp
  have z2 : w1.frozen? ⟨p, 2, none⟩ = false := by simp [World.frozen?, hp1]
  have hu := used_del h.srt he
  have hQ : DK (w1.setCell ⟨p, 2, none⟩ (.int .i64 ((used es : Int) - (e.da.length : Int)))).drew p mb (delE es e.nm) c ∧ Stay (fun k => k = p ∨ k = mb) w (w1.setCell ⟨p, 2, none⟩ (.int .i64 ((used es : Int) - (e.da.length : Int)))).drew := by
    have s2 : Stay (· = p) w1 (w1.setCell ⟨p, 2, none⟩ (.int .i64 ((used es : Int) - (e.da.length : Int)))).drew := ((Stay.refl (· = p) w1).setCell (p := ⟨p, 2, none⟩) (fun _ => rfl) _).drew
    have sT : Stay (fun k => k = p ∨ k = mb) w (w1.setCell ⟨p, 2, none⟩ (.int .i64 ((used es : Int) - (e.da.length : Int)))).drew := ((undrew (Stay.grown g1 (F := fun k => k = p ∨ k = mb) (fun k hk => .inr (Option.some.inj hk).symm))).setCell (p := ⟨p, 2, none⟩) (fun _ => .inl rfl) _).drew
    rw [← hnm] at m1
    refine ⟨h.del he sT (map_kept m1 s2 h.p_mb) ?_, sT⟩
    rw [show ((used (delE es e.nm) : Nat) : Int) = (used es : Int) - (e.da.length : Int) by omega]
    exact heap_setCell_same w1 p 2 _ _ _ hp1
  go_enter Tryz.func82, Tryz.ntmps82
  go_wp2
  go_region_law (refine step_delete_eq rfl _ _ _ _ rfl _ _ _ _ rfl rfl hr1 ?_)
  all_goals
    go_wp2
    go_region
    go_wp2
    go_end0
    exact ⟨rfl, hQ⟩
end Go.Proofs.YtkoannkecojhmaaGreatDoor
