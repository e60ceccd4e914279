/-
  DERIVED. DiskSurvives: told behind a write that was done: the list is the disk's files again.
-/
import Derived.Test.YthpppinplnkkhaaDKept
import Derived.Test.YthpppinplnkkhaaDToldC
set_option linter.unusedVariables false
set_option linter.unusedSimpArgs false
set_option linter.unnecessarySimpa false
namespace Go.Proofs.Ythpppinplnkkhaa
open Go.RowKit Go.Maps Go.Proofs.DiskMath
theorem mem_mod {es : List Ent} {e x : Ent} (he : e ∈ es) (hn : x.nm = e.nm) : x ∈ modE es x := by
  unfold modE
  exact List.mem_map.2 ⟨e, he, by rw [if_pos hn.symm]⟩
theorem set_perm {K fs : List Fl} (hp : K.Perm fs) (hnd : (K.map Fl.nm).Nodup) (k : Nat) (hk : k < K.length) (x y : Fl) (hx : x.nm = (K[k]).nm) (hxy : x = y) : (K.set k x).Perm (modF fs y) := by
  rw [set_mod K k hk x hx hnd, hxy]
  exact mod_perm hp _
/-- The write was done. -/
def Goes (s : Stp) (c : Ctl) : Prop := c.left ≠ 1 ∨ s.do_ = 2 ∨ (s.do_ ≠ 3 ∧ c.dn = true)
theorem goes_done {s : Stp} {c : Ctl} (h : Goes s c) (h2 : s.do_ ≠ 2) (hd : doneC c = false) : False := by
  unfold doneC at hd
  simp at hd
  rcases h with h | h | h
  · exact h hd.2
  · exact h2 h
  · rw [hd.1] at h; cases h.2
/-- What told leaves, and that it is the files. -/
def TellO (B : Nat) (W : World) (v : Value) (es' : List Ent) (r : Ending) (w' : World) : Prop := ∃ v' K', r = .returned (.tuple #[v', .bool true]) ∧ ToldTo B W w' v v' K' ∧ K'.Perm (es'.map fl)
theorem told_eff {B : Nat} {v : Value} {K : List Fl} {es es' : List Ent} {c : Ctl} (s : Stp) (h1 : 1 ≤ s.do_) (h6 : s.do_ ≤ 6) (W : World) (h : KL B W v K) (hB : B ≤ W.heap.size) (hp : K.Perm (es.map fl)) (hs : Srt es) (hmany : es.length ≤ 4096)
    (hdu : ∀ e ∈ es, e.du ≤ e.da.length) (hda : ∀ e ∈ es, e.da.length ≤ 268435456) (hda' : ∀ e ∈ es', e.da.length ≤ 268435456) (hef : effE s es c es') (hg : Goes s c) :
    Calls Try.prog 11 #[v, .agg (stpC s)] W (TellO B W v es') := by
  have hl : K.length ≤ 8192 := by rw [hp.length_eq, List.length_map]; omega
  have hnd := nodup_K hp hs
  rcases hef with ⟨hd, hf, hnm, hx⟩ | ⟨e, hf, hx⟩
  · rcases hx with ⟨-, fb, rfl⟩ | ⟨hno, -⟩
    · refine told_create s hd W h hB hl (at_none hp hf) _ (fun v' w' ht => ⟨v', _, rfl, ht, ?_⟩)
      rw [fl_ins]
      exact create_perm hp _
    · exact (goes_done hg (by omega) hno).elim
  · obtain ⟨hem, hen⟩ := findE_mem hf
    obtain ⟨k, hk, hat, hKk⟩ := at_perm hp hs hem
    rw [hen] at hat
    have hdaK : (K[k]).da.length ≤ 268435456 := by rw [hKk]; exact hda e hem
    have hduK : (K[k]).du ≤ (K[k]).da.length := by rw [hKk]; exact hdu e hem
    rcases hx with ⟨hd, vv, rfl⟩ | ⟨hd, rfl⟩ | ⟨hd, n0, n1, hx⟩ | ⟨hd, hx⟩ | ⟨hd, hx⟩
    · have hb := hda' _ (mem_mod (x := { e with da := e.da ++ s.da.data.toList, v := vv }) hem rfl)
      refine told_append s hd W h hl k hk hat ?_ _ (fun v' w' ht => ⟨v', _, rfl, ht, ?_⟩)
      · rw [hKk]
        simp only [List.length_append] at hb
        show e.da.length + s.da.size ≤ 268435456
        have e1 : s.da.data.toList.length = s.da.size := Array.length_toList
        omega
      · rw [fl_mod]
        exact set_perm hp hnd k hk _ _ rfl (by simp only [hKk]; rfl)
    · have hl1 : ¬ c.left = 1 := by
        rcases hg with hg | hg | hg
        · exact hg
        · omega
        · exact absurd hd hg.1
      rw [if_neg hl1]
      refine told_sync s hd W h hB hl k hk hat hdaK _ (fun v' w' ht => ⟨v', _, rfl, ht, ?_⟩)
      rw [fl_mod]
      exact set_perm hp hnd k hk _ _ rfl (by simp only [hKk]; rfl)
    · rcases hx with ⟨-, vv, rfl⟩ | ⟨hno, -⟩
      · refine told_cut s hd W h hB hl k hk hat s.n.toNat (by omega) (by rw [hKk]; show s.n.toNat ≤ e.da.length; omega) hdaK hduK _ (fun v' w' ht => ⟨v', _, rfl, ht, ?_⟩)
        rw [fl_mod]
        exact set_perm hp hnd k hk _ _ rfl (by simp only [hKk]; rfl)
      · exact (goes_done hg (by omega) hno).elim
    · rcases hx with ⟨-, rfl⟩ | ⟨hno, -⟩
      · refine told_rename s hd W h hB hl k hk hat _ (fun v' w' ht => ⟨v', _, rfl, ht, ?_⟩)
        rw [fl_ren]
        have e1 : ({ K[k] with nm := s.to.data.toList } : Fl) = { fl e with nm := s.to.data.toList } := by rw [hKk]
        rw [e1]
        have e2 : s.nm.data.toList = (fl e).nm := hen.symm
        rw [e2]
        exact ren_perm hp _ _
      · exact (goes_done hg (by omega) hno).elim
    · have hd6 : s.do_ = 6 := by omega
      rcases hx with ⟨-, rfl⟩ | ⟨hno, -⟩
      · refine told_delete s hd6 W h hB hl k hk hat _ (fun v' w' ht => ⟨v', _, rfl, ht, ?_⟩)
        rw [fl_del, hen]
        exact del_perm hp _
      · exact (goes_done hg (by omega) hno).elim
end Go.Proofs.Ythpppinplnkkhaa
