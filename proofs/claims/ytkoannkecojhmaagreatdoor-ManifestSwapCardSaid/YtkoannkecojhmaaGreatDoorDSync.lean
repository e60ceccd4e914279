/-
  DERIVED. One file changes: Sync, Append, Cut.
-/
import Derived.Test.YtkoannkecojhmaaGreatDoorDWrite
namespace Go.Proofs.YtkoannkecojhmaaGreatDoor
open Go.RowKit Go.Maps Go.Proofs.DiskMath
theorem FileAt.row_fb {w : World} {e : Ent} (h : FileAt w e) (k : Nat) (hk : e.v.ownBlock = some k) : k ≠ e.fb := fun e1 => by
  obtain ⟨cur, hc⟩ := row_block h.row hk
  rw [e1, h.cells] at hc
  simp at hc
theorem pair_sym {R : Ent → Ent → Prop} (hs : ∀ {x y}, R x y → R y x) : ∀ {l : List Ent}, l.Pairwise R → ∀ {a b : Ent}, a ∈ l → b ∈ l → a ≠ b → R a b
  | [], _, _, _, ha, _, _ => by cases ha
  | z :: r, h, a, b, ha, hb, hne => by
    have h1 := List.pairwise_cons.1 h
    rcases List.mem_cons.1 ha with ea | ha <;> rcases List.mem_cons.1 hb with eb | hb
    · exact absurd (ea.trans eb.symm) hne
    · rw [ea]; exact h1.1 b hb
    · rw [eb]; exact hs (h1.1 a ha)
    · exact pair_sym hs h1.2 ha hb hne
theorem DK.apart {w : World} {p mb : Nat} {es : List Ent} {c : Ctl} (h : DK w p mb es c) {a b : Ent} (ha : a ∈ es) (hb : b ∈ es) (hne : a.nm ≠ b.nm) : ∀ k, foot a k → ¬ foot b k := by
  have hsep : a.fb ≠ b.fb ∧ ∀ k, a.v.ownBlock = some k → b.v.ownBlock ≠ some k := by
    refine pair_sym (R := fun x y : Ent => x.fb ≠ y.fb ∧ ∀ k, x.v.ownBlock = some k → y.v.ownBlock ≠ some k) (fun h => ⟨Ne.symm h.1, fun k h1 h2 => h.2 k h2 h1⟩) h.sep ha hb (fun e => hne (by rw [e]))
  have fa := h.hf a ha
  have fb := h.hf b hb
  have key : ∀ {x y : Ent}, FileAt w x → FileAt w y → y.v.ownBlock ≠ some x.fb := fun hx hy he => by
    obtain ⟨cur, hc⟩ := row_block hy.row he
    rw [hx.cells] at hc
    simp at hc
  rintro k (rfl | h1) (h2 | h2)
  · exact hsep.1 h2
  · exact key fa fb h2
  · exact key fb fa (h2 ▸ h1)
  · exact hsep.2 k h1 h2
/-- A disk with one file other than it was. -/
theorem DK.mod {w W : World} {p mb : Nat} {es : List Ent} {c : Ctl} (h : DK w p mb es c) {e x : Ent} (he : e ∈ es) (hn : x.nm = e.nm) (hb : x.fb = e.fb) (s : Stay (fun k => k = p ∨ foot e k) w W) (hx : FileAt W x)
    (hr : ∀ k, x.v.ownBlock = some k → e.v.ownBlock = some k ∨ w.heap.size ≤ k) (hfull : used (modE es x) ≤ c.cap)
    (hp : W.heap[p]? = some (.cells #[.map (some mb), .int .i64 c.cap, .int .i64 (used (modE es x)), .bool c.off, .int .i64 c.left, .bool c.dn, .int .i64 c.age, .int .i64 c.wr] 75 (0, 0))) : DK W p mb (modE es x) c := by
  have hother : ∀ a ∈ es, a.nm ≠ x.nm → FileAt W a := fun a ha hne => (h.hf a ha).kept s fun k hk => by
    rintro (rfl | hk')
    · exact h.p_foot ha hk
    · exact h.apart ha he (by rw [← hn]; exact hne) k hk hk'
  exact
  { hp := hp
    hm := by
      rw [modE_len, dmap_mod h.srt he hn hb]
      exact map_kept h.hm s (by
        rintro (hk | hk)
        · exact h.p_mb hk
        · exact h.mb_foot he hk)
    hf := fun a ha => by
      rcases modE_mem ha with rfl | ⟨ha, hne⟩
      · exact hx
      · exact hother a ha hne
    sep := by
      unfold modE
      refine List.pairwise_map.2 (List.Pairwise.imp_of_mem (fun {a b} ha hbm hab => ?_) (h.srt.and h.sep))
      obtain ⟨hlt, hab⟩ := hab
      have new_old : ∀ y ∈ es, y.nm ≠ x.nm → ∀ k, x.v.ownBlock = some k → y.v.ownBlock ≠ some k := fun y hy hne k h1 h2 => by
        rcases hr k h1 with h3 | h3
        · exact h.apart he hy (by rw [← hn]; exact Ne.symm hne) k (.inr h3) (.inr h2)
        · have := h.lt (.inr (.inr ⟨y, hy, .inr h2⟩)); omega
      have nameNe : a.nm ≠ b.nm := fun e => by rw [e] at hlt; exact List.lt_irrefl _ hlt
      split <;> split
      · rename_i h1 h2; exact absurd (h1.trans h2.symm) nameNe
      · rename_i h1 h2
        have hae := h.srt.uniq ha he (h1.trans hn)
        exact ⟨by rw [hb, ← hae]; exact hab.1, new_old b hbm h2⟩
      · rename_i h1 h2
        have hbe := h.srt.uniq hbm he (h2.trans hn)
        exact ⟨by rw [hb, ← hbe]; exact hab.1, fun k h3 h4 => new_old a ha h1 k h4 h3⟩
      · exact hab
    srt := h.srt.mod x
    nms := fun a ha => by
      rcases modE_mem ha with rfl | ⟨ha, _⟩
      · rw [hn]; exact h.nms e he
      · exact h.nms a ha
    many := by rw [modE_len]; exact h.many
    full := hfull
    cap := h.cap
    left := h.left
    age := h.age
    wr := h.wr }
set_option maxHeartbeats 4000000 in
set_option maxRecDepth 100000 in
theorem sync1_any {p mb : Nat} {es : List Ent} {c : Ctl} (e : Ent) (bf : Nat) (w : World) (h : DK w p mb es c) (he : e ∈ es) (hd : w.cell? ⟨bf, 0, none⟩ = some (Pt e.fb)) :
    Calls Tryz.prog 75 #[Pt bf] w fun r w' => r = .returned (.tuple #[]) ∧ DK w' p mb (modE es { e with du := e.da.length }) c ∧ Stay (fun k => k = p ∨ foot e k) w w' := by
  have fe := h.hf e he
  obtain ⟨c0, c1⟩ := fe.cell
  obtain ⟨a, cap, hv, hcap⟩ := slice_form fe.row
  have z1 := fe.frz 1
  rw [hv] at c0
  go_enter Tryz.func75, Tryz.ntmps75
  go_wp2
  go_region
  go_wp2
  go_end0
  have s1 : Stay (· = e.fb) w (w.setCell ⟨e.fb, 1, none⟩ (.int .i64 e.da.length)).drew := ((Stay.refl (· = e.fb) w).setCell (p := ⟨e.fb, 1, none⟩) (fun _ => rfl) _).drew
  have sW := s1.mono (G := fun k => k = p ∨ foot e k) (fun k _ hk => .inr (.inl hk))
  have hu : used (modE es { e with du := e.da.length }) = used es := by have := used_mod h.srt he (x := { e with du := e.da.length }) rfl; dsimp only at this; omega
  refine ⟨rfl, h.mod (x := { e with du := e.da.length }) he rfl rfl sW ⟨?_, ?_, Nat.le_refl _, fe.da⟩ (fun k hk => .inl hk) ?_ ?_, sW⟩
  · exact heap_setCell_same w _ 1 _ _ _ fe.cells
  · exact row_kept fe.row s1 fun k hk => fe.row_fb k hk
  · rw [hu]; exact h.full
  · rw [hu]; exact (s1.block p (h.lt (.inl rfl)) fun e1 => h.p_foot he (.inl e1)).trans h.hp
end Go.Proofs.YtkoannkecojhmaaGreatDoor
