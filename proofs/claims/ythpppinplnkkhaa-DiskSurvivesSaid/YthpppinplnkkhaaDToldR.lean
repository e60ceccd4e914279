/-
  DERIVED. DiskSurvives: the list of what is known: told.
-/
import Derived.Test.YthpppinplnkkhaaDTold
import Derived.Deep.RegionHeldLaw
set_option linter.unusedVariables false
set_option linter.unusedSimpArgs false
set_option linter.unnecessarySimpa false
namespace Go.Proofs.Ythpppinplnkkhaa
open Go.RowKit Go.Maps Go.Proofs.DiskMath
theorem b_d (w : World) : Below w.heap.size w w.drew := (Below.refl _ w).drew
theorem b_da (w : World) (o : Obj) : Below w.heap.size w (w.drew.alloc o) := (Below.refl _ w).drew.alloc (Nat.le_refl _) _
theorem KL.mono' {B B' n : Nat} {W : World} {v : Value} {xs : List Value} (h : W.ownsRow B 34 3 v n xs) (hb : B' ≤ B) : W.ownsRow B' 34 3 v n xs := by
  rcases h with ⟨h1, h2 | ⟨g, cap, cur, h2, h3, h4⟩⟩
  · exact ⟨h1, .inl h2⟩
  · exact ⟨h1, .inr ⟨g, cap, cur, h2, Nat.le_trans hb h3, h4⟩⟩
theorem cell_three' (w : World) (x y z : Value) (t : TypeId) {n : Nat} (hn : w.heap.size = n) : ∀ j u, ([x, y, z] : List Value)[j]? = some u → (w.alloc (.cells #[x, y, z] t)).cell? ((⟨n, 0, none⟩ : Addr).add j) = some u := by
  subst hn; exact cell_three w x y z t
set_option maxHeartbeats 4000000 in
set_option maxRecDepth 100000 in
theorem told_create {B : Nat} {v : Value} {K : List Fl} (s : Stp) (hdo : s.do_ = 1) (w : World) (h : KL B w v K) (hB : B ≤ w.heap.size) (hl : K.length ≤ 8192) (hat : atK K s.nm.data.toList = -1) (R : Ending → World → Prop)
    (h1 : ∀ v' w', ToldTo B w w' v v' (K ++ [⟨s.nm.data.toList, [], 0⟩]) → R (.returned (.tuple #[v', .bool true])) w') : Calls Try.prog 11 #[v, .agg (stpC s)] w R := by
  unfold stpC
  obtain ⟨i0, hi0, hz0, hz1, hz2⟩ := info_parts Try.infoKn
  obtain ⟨a, cap, hv⟩ := own_form h
  rw [hdo]
  have HR := Hid.mk h1
  clear h1
  rw [hv]
  go_enter Try.func11, Try.ntmps11
  go_wp2_with fail
  rw [← hv]
  refine (at_any s.nm _ (World.ownsRow.alloc h _) (by omega)).mono ?_
  rintro r w' ⟨rfl, rfl⟩
  rw [hat, hv]
  rw [hv] at h HR
  go_wp2_with (at_builtin; refine wpList_append_own _ rfl _ _ 26 rfl B 34 i0 _ 3 40 Try.underlying26 hi0 hz0 hz1 hz2 rfl (by decide) _ _ _ rfl (World.ownsRow.alloc (World.ownsRow.alloc h _) _) ⟨w.heap.size + 1, 0, none⟩ 1 1 [.string s.nm, .string ⟨#[]⟩, .int .i64 0] rfl rfl (cell_three' _ _ _ _ _ (by simp)) (by simp [Value.oneCell']) (by unfold maxLen; omega) (by omega) (by simp; omega) ?_; intro v7 w7 ho7 hg7 hnil7)
  exact HR.out _ _ ⟨by unfold KL; rw [cellsK_snoc, List.length_append]; exact ho7, ((Stay.refl _ w).alloc _ |>.alloc _).trans (Stay.grown hg7 (fun k hk => hk))⟩
set_option maxHeartbeats 4000000 in
set_option maxRecDepth 100000 in
theorem told_rename {B : Nat} {v : Value} {K : List Fl} (s : Stp) (hdo : s.do_ = 5) (w : World) (h : KL B w v K) (hB : B ≤ w.heap.size) (hl : K.length ≤ 8192) (i : Nat) (hi : i < K.length) (hat : atK K s.nm.data.toList = i)
    (R : Ending → World → Prop)
    (h1 : ∀ v' w', ToldTo B w w' v v' (delF (delF K s.nm.data.toList) s.to.data.toList ++ [{ K[i] with nm := s.to.data.toList }]) → R (.returned (.tuple #[v', .bool true])) w') : Calls Try.prog 11 #[v, .agg (stpC s)] w R := by
  unfold stpC
  obtain ⟨g, cap, hv, q0, q1, q2⟩ := h.cell i hi
  have hg : g < w.heap.size := (World.ownsRow.lt h g (by rw [hv]; rfl)).2
  rw [hv, hdo]
  rw [hv] at h h1
  have HR := Hid.mk h1
  clear h1 hv v
  go_enter Try.func11, Try.ntmps11
  go_wp2_with fail
  refine (at_any s.nm _ (World.ownsRow.alloc h _) (by omega)).mono ?_
  rintro r w' ⟨rfl, rfl⟩
  rw [hat]
  obtain ⟨i0, hi0, hz0, hz1, hz2⟩ := info_parts Try.infoKn
  have HC : Hid (kC { K[i] with nm := s.to.data.toList } = [.string s.to, .string ⟨(K[i]).da.toArray⟩, .int .i64 (K[i]).du]) := by
    show _ = _
    unfold kC encStr; simp
  generalize hT : (⟨(K[i]).da.toArray⟩ : ByteArray) = T at *
  go_wp2_with fail
  refine drop_any s.nm _ (World.ownsRow.alloc (World.ownsRow.alloc h _) _) hl _ (fun v2 w2 hk2 hb2 => ?_)
  obtain ⟨a2, cap2, hv2⟩ := own_form hk2
  have hl3 : (delF (delF K s.nm.data.toList) s.to.data.toList).length ≤ 8192 := Nat.le_trans (List.length_filter_le _ _) (Nat.le_trans (List.length_filter_le _ _) hl)
  have hl2 : (delF K s.nm.data.toList).length ≤ 8192 := Nat.le_trans (List.length_filter_le _ _) hl
  have b2 := (((Below.refl w.heap.size w).alloc (Nat.le_refl _) _).alloc (by simp) _).trans (hb2.mono (by simp; omega))
  have cc : ∀ j u, ([.string s.to, .string T, .int .i64 (K[i]).du] : List Value)[j]? = some u → w2.cell? ((⟨w.heap.size + 1, 0, none⟩ : Addr).add j) = some u := fun j u hu => cell_later hb2 (cell_three' _ _ _ _ _ (by simp) j u hu)
  have c0 : w2.cell? ⟨w.heap.size + 1, 0, none⟩ = some (.string s.to) := by have := cc 0 _ rfl; simpa [Addr.add] using this
  have c1 : w2.cell? ⟨w.heap.size + 1, 1, none⟩ = some (.string T) := by have := cc 1 _ rfl; simpa [Addr.add] using this
  have c2 : w2.cell? ⟨w.heap.size + 1, 2, none⟩ = some (.int .i64 (K[i]).du) := by have := cc 2 _ rfl; simpa [Addr.add] using this
  have c3 : w2.cell? ⟨w.heap.size, 2, none⟩ = some (.string s.to) := cell_later hb2 (cell_later ((Below.refl _ (w.alloc (.cells #[.int .i64 5, .string s.nm, .string s.to, .string s.da, .int .i64 s.at_, .int .i64 s.n, .bool s.dn, .slice s.ca s.cs.length s.cc] 29))).alloc (Nat.le_refl _) _) (by unfold World.cell?; rw [heap_alloc_new]; rfl))
  have hs2 : w.heap.size + 2 ≤ w2.heap.size := by have := hb2.size; simpa using this
  clear hb2
  subst hv2
  go_wp2_with fail
  go_region_held_law (fun w' => Below w2.heap.size w2 w' ∧ w'.cell? ⟨w.heap.size, 2, none⟩ = some (.string s.to) ∧ w'.cell? ⟨w.heap.size + 1, 0, none⟩ = some (.string s.to) ∧ w'.cell? ⟨w.heap.size + 1, 1, none⟩ = some (.string T) ∧ w'.cell? ⟨w.heap.size + 1, 2, none⟩ = some (.int .i64 (K[i]).du))
    ((refine (fun hb => ⟨hb, cell_later hb c3, cell_later hb c0, cell_later hb c1, cell_later hb c2⟩) ?_; first | exact b7 | exact b3 | exact b3.alloc b3.size _ | exact b_d w2 | exact b_da w2 _))
    (first
      | (go_at_call 25; refine drop_any s.to _ (row_below hk2 (by first | exact b_d w2 | exact b_da w2 _)) hl2 _ (fun v3 w3 hk3 hb3 => ?_); have hk4 := KL.mono hk3 (B' := w2.heap.size) (by first | exact Nat.le_refl _ | simp); have b3 : Below w2.heap.size w2 w3 := (by first | exact chain (b_d w2) hb3 (Nat.le_refl _) | exact chain (b_da w2 _) hb3 (Nat.le_refl _)))
      | (refine step_append_own rfl _ _ 26 rfl w2.heap.size 34 i0 _ 3 40 Try.underlying26 hi0 hz0 hz1 hz2 rfl (by decide) v3 _ _ rfl (World.ownsRow.alloc hk4 _) ⟨w3.heap.size, 0, none⟩ 1 1 [.string s.to, .string T, .int .i64 (K[i]).du] rfl rfl (cell_three w3 _ _ _ _) (by simp [Value.oneCell']) (by unfold maxLen; omega) (by omega) (by have := b3.size; simp; omega) ?_; intro v7 w7 ho7 hg7; have b7 : Below w2.heap.size w2 w7 := (b3.alloc b3.size _).grown hg7 (by have := b3.size; simp; omega) (fun k hk => (World.ownsRow.lt hk4 k hk).1))
      | (refine step_append_own rfl _ _ 26 rfl w2.heap.size 34 i0 _ 3 40 Try.underlying26 hi0 hz0 hz1 hz2 rfl (by decide) v3 _ _ rfl hk4 ⟨w2.heap.size, 0, none⟩ 1 1 [.string s.to, .string T, .int .i64 (K[i]).du] rfl rfl (fun j u hu => cell_later hb3 (cell_three w2.drew _ _ _ _ j u hu)) (by simp [Value.oneCell']) (by unfold maxLen; omega) (by omega) (by have := b3.size; simp; omega) ?_; intro v7 w7 ho7 hg7; have b7 : Below w2.heap.size w2 w7 := b3.grown hg7 b3.size (fun k hk => (World.ownsRow.lt hk4 k hk).1)))
  all_goals
    obtain ⟨a7, cap7, hv7⟩ := own_form ho7
    have HT := Hid.mk (HR.out v7 w7 ⟨by unfold KL; rw [cellsK_snoc, List.length_append, HC.out]; exact KL.mono' ho7 (by omega), Stay.below (chain b2 b7 (Nat.le_refl _))⟩)
    clear HR
    subst hv7
    go_wp2
    exact HT.out
end Go.Proofs.Ythpppinplnkkhaa
