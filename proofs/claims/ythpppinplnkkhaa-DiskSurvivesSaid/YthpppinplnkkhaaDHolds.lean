/-
  DERIVED. DiskSurvives: holds.
-/
import Derived.Test.YthpppinplnkkhaaDToldR
import Derived.Test.YthpppinplnkkhaaDQuiet
set_option linter.unusedVariables false
set_option linter.unusedSimpArgs false
set_option linter.unnecessarySimpa false
namespace Go.Proofs.Ythpppinplnkkhaa
open Go.RowKit Go.Maps Go.Proofs.DiskMath
theorem at_perm {K : List Fl} {es : List Ent} (hp : K.Perm (es.map fl)) (hs : Srt es) {e : Ent} (he : e ∈ es) : ∃ k, ∃ hk : k < K.length, atK K e.nm = k ∧ K[k] = fl e := by
  have hm : fl e ∈ K := hp.mem_iff.2 (List.mem_map_of_mem he)
  cases hx : K.findIdx? (fun f => f.nm == e.nm) with
  | none =>
    rw [List.findIdx?_eq_none_iff] at hx
    have := hx _ hm
    simp [fl] at this
  | some k =>
    have h2 := hx
    rw [List.findIdx?_eq_some_iff_getElem] at h2
    obtain ⟨hk, hq, -⟩ := h2
    refine ⟨k, hk, by unfold atK; rw [hx], ?_⟩
    have hmk : K[k] ∈ es.map fl := hp.mem_iff.1 (List.getElem_mem hk)
    obtain ⟨e', he', hfe⟩ := List.mem_map.1 hmk
    have hn : e'.nm = e.nm := by
      have : K[k].nm = e.nm := by simpa using hq
      rw [← hfe] at this; exact this
    rw [← hfe, hs.uniq he' he hn]
theorem at_none {K : List Fl} {es : List Ent} (hp : K.Perm (es.map fl)) {n : List UInt8} (hf : findE es n = none) : atK K n = -1 := by
  refine atK_none fun j hj => ?_
  have hmk : K[j] ∈ es.map fl := hp.mem_iff.1 (List.getElem_mem hj)
  obtain ⟨e', he', hfe⟩ := List.mem_map.1 hmk
  rw [← hfe]
  unfold findE at hf
  rw [List.find?_eq_none] at hf
  have := hf e' he'
  simpa [fl] using this
theorem fd_in {es : List Ent} {c : Ctl} (hs : Srt es) (hn : ∀ e ∈ es, isNm e.nm = true) (ho : c.off = false) {e : Ent} (he : e ∈ es) : fdE es c e.nm = 0 ∧ findE es e.nm = some e := by
  have hf := hs.find he
  have hc : ckE c e.nm = 0 := by unfold ckE; rw [ho, hn e he]; rfl
  exact ⟨by unfold fdE; rw [if_pos hc, hf], hf⟩
/-- The row has no block of the disk. -/
theorem row_apart {B : Nat} {W : World} {p mb : Nat} {es : List Ent} {c : Ctl} {v : Value} {K : List Fl} (d : DK W p mb es c) (h : KL B W v K) {k : Nat} (hk : v.ownBlock = some k) : ¬ Foot p mb es k := by
  rcases h.2 with ⟨rfl, _⟩ | ⟨g, cap, cur, rfl, _, hg, _⟩
  · simp [Value.ownBlock] at hk
  · simp [Value.ownBlock] at hk
    subst hk
    rintro (rfl | rfl | ⟨e, he, rfl | hk⟩)
    · rw [d.hp] at hg; simp at hg
    · obtain ⟨_, _, hb, _⟩ := d.hm
      rw [hb] at hg; simp at hg
    · rw [(d.hf e he).cells] at hg; simp at hg
    · rcases (d.hf e he).row.2 with ⟨h0, _⟩ | ⟨g', cap', cur', h0, _, hg', _⟩
      · rw [h0] at hk; simp [Value.ownBlock] at hk
      · rw [h0] at hk; simp [Value.ownBlock] at hk
        subst hk
        rw [hg'] at hg; simp at hg
theorem KL.kept {B : Nat} {W W' : World} {F : Nat → Prop} {v : Value} {K : List Fl} (h : KL B W v K) (s : Stay F W W') (hn : ∀ k, v.ownBlock = some k → ¬ F k) : KL B W' v K := by
  rcases h with ⟨h1, h2 | ⟨g, cap, cur, h2, h3, h4, h5⟩⟩
  · exact ⟨h1, .inl h2⟩
  · exact ⟨h1, .inr ⟨g, cap, cur, h2, h3, (s.block g (Array.getElem?_eq_some_iff.1 h4).1 (hn _ (by rw [h2]; rfl))).trans h4, h5⟩⟩
theorem KL.step {B : Nat} {W W' : World} {p mb : Nat} {es es' : List Ent} {c c' : Ctl} {v : Value} {K : List Fl} (h : KL B W v K) (d : DK W p mb es c) (s : Step W W' p mb es es' c') : KL B W' v K := h.kept s.stay fun k hk => row_apart d h hk
theorem Ow.told {w W W' : World} {p mb : Nat} {es : List Ent} {c : Ctl} {v v' : Value} {K K' : List Fl} (o : Ow w W p mb es c) (h : KL w.heap.size W v K) (t : ToldTo w.heap.size W W' v v' K') : Ow w W' p mb es c :=
  ⟨o.dk.kept t.stay (fun k hF hk => row_apart o.dk h hk hF), o.bel.trans (t.stay.toBelow (fun k hk hF => by have := (World.ownsRow.lt h k hF).1; omega) o.bel.size), o.own⟩
end Go.Proofs.Ythpppinplnkkhaa
