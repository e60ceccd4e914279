/-
  DERIVED. What a call leaves, as TreeWork asks.
-/
import Derived.Test.YtnnbcdfpbdmgdaaDoorTDo
set_option linter.unusedVariables false
set_option linter.unusedSimpArgs false
namespace Go.Proofs.YtnnbcdfpbdmgdaaDoor
open Go.RowKit Go.Maps Go.Sort Go.Proofs.BitMath Go.Proofs.TreeMath
/-- The box of an answer is written: the tree is as it was. -/
theorem OT.boxed {n : Nat} {W0 wd1 W1 w1 W' : World} {t wd : Nat} {T : List (Nd (Cd n))} {bs : List Nat} {ms : List (Option Nat)} {x : Num} {gb : Nat} (h : OT W0 w1 t wd T bs ms x) (hf : ∀ k, TFoot t bs ms k → k ≠ gb) (hg : W0.heap.size ≤ gb) (s : Stay (fun k => k = gb) w1 W') : OT W0 W' t wd T bs ms x :=
  ⟨h.tr.kept s (fun k hk e => hf k hk e), h.own, h.be.trans (s.toBelow (fun k hk e => by omega) h.be.size)⟩
theorem dep_pos {n : Nat} {W : World} {t wd : Nat} {T : List (Nd (Cd n))} {bs : List Nat} {ms : List (Option Nat)} {x : Num} (h : TR W t wd T bs ms x) : (x.dep = 0) ↔ (T.length = 0) := by
  constructor
  · intro h0
    rcases Nat.eq_zero_or_pos T.length with e | e
    · exact e
    · have := h.dep 0 e
      rw [h0] at this
      have h1 : 1 ≤ dep T (0 + 1) 0 := by
        have h2 : T[0]? = some T[0] := List.getElem?_eq_getElem e
        have h3 := h.wf.root _ h2
        simp only [dep, h2, h3]
        exact Nat.le_refl _
      omega
  · intro h0
    have := h.depT
    omega
/-- What TreeWork asks of a call. -/
structure Wk {n : Nat} (W0 W' : World) (t wd : Nat) (T : List (Nd (Cd n))) (x : Num) (K : Int) (r : Ending) : Prop where
  ex : ∃ (T' : List (Nd (Cd n))) (bs' : List Nat) (ms' : List (Option Nat)) (x' : Num) (nv len : Nat) (y : Bool) (e a b c d : Int) (va : Option Addr) (vc : Nat),
    OT W0 W' t wd T' bs' ms' x' ∧ T'.length ≤ T.length + 1 ∧ T'.length ≤ 2 * (lives T').length + 16 ∧ x'.looked = lkN x.looked nv ∧ r = .returned (gotV y e (.slice va len vc) a b c d) ∧ nv ≤ T'.length ∧ len ≤ nv ∧ (¬ ((K = 4 ∨ K = 5) ∧ e = 0) → nv = 0)
theorem do_work {n : Nat} {W0 wr W' : World} {t wd : Nat} {T : List (Nd (Cd n))} {bs : List Nat} {ms : List (Option Nat)} {x : Num} {K N : Int} {s : ByteArray} {r : Ending} (h : OT W0 wr t wd T bs ms x) (hI : T.length ≤ 2 * (lives T).length + 16) (hd : DoO wr t wd T bs ms x K s N r W') : Wk W0 W' t wd T x K r := by
  obtain ⟨W1, w1, gb, b1, htr1, hg1, hg2, hc, hst⟩ := hd
  have o1 := h.below b1
  have hft : ∀ k, TFoot t bs ms k → k < wr.heap.size := fun k hk => h.tr.lt hk
  have hgW : W0.heap.size ≤ gb := Nat.le_trans h.be.size hg1
  have hlk0 : lkN x.looked 0 = x.looked := lkN_zero h.tr.lk
  have same : ∀ w1', Below W1.heap.size W1 w1' → Stay (fun k => k = gb) w1' W' → OT W0 W' t wd T bs ms x := fun w1' b hs => (o1.below b).boxed (wd1 := W0) (W1 := W0) (fun k hk e => by have := hft k hk; omega) hgW hs
  have moved : ∀ (T' : List (Nd (Cd n))), Moved W1 w1 t wd T' bs ms x → ∃ bs' ms' x', OT W0 W' t wd T' bs' ms' x' ∧ x'.looked = x.looked := fun T' m => by
    obtain ⟨⟨bs', ms', x', m1, m2, m3⟩, m4⟩ := m
    have hf : ∀ k, TFoot t bs' ms' k → k ≠ gb := fun k hk e => by
      rcases m3 k hk with e2 | e2
      · have := hft k e2; omega
      · omega
    refine ⟨bs', ms', x', OT.boxed (wd1 := W0) (W1 := W0) ⟨m1, fun k hk => ?_, o1.be.trans (m4.toBelow (fun k hk e => by have := h.own k e; omega) o1.be.size)⟩ hf hgW hst, m2⟩
    rcases m3 k hk with e2 | e2
    · exact h.own k e2
    · exact Nat.le_trans o1.be.size e2
  rcases hc with ⟨rfl, y, e, rfl, ho⟩ | ⟨rfl, y, rfl, ho⟩ | ⟨rfl, y, rfl, hb, -⟩ | ⟨rfl, v, e, d, rfl, ho, -⟩ | ⟨rfl, v, e, d, rfl, ho, -⟩ | ⟨hK, a, b, c, d, rfl, hb, -⟩
  · have key : ∃ T' : List (Nd (Cd n)), Moved W1 w1 t wd T' bs ms x ∧ T'.length ≤ T.length + 1 ∧ T'.length ≤ 2 * (lives T').length + 16 := by
      rcases ho with ⟨-, -, m⟩ | ⟨hs, (⟨-, -, m⟩ | ⟨j, nd, hj, -, (⟨-, -, m⟩ | ⟨hl, -, m⟩)⟩)⟩
      · exact ⟨T, m, by omega, hI⟩
      · refine ⟨_, m, ?_, ?_⟩
        · rw [hang_len h.tr.wf]; exact Nat.le_refl _
        · rw [hang_len h.tr.wf, hang_lives h.tr.wf, List.length_append, List.length_singleton]; omega
      · exact ⟨T, m, by omega, hI⟩
      · refine ⟨_, m, by rw [setLive_len]; omega, ?_⟩
        have := lives_len T j nd true hj
        rw [setLive_len]
        simp [hl] at this
        omega
    obtain ⟨T', m, hl1, hl2⟩ := key
    obtain ⟨bs', ms', x', o, hx⟩ := moved T' m
    exact ⟨T', bs', ms', x', 0, 0, y, e, 0, 0, 0, 0, none, 0, o, hl1, hl2, by rw [hx, hlk0], rfl, Nat.zero_le _, Nat.le_refl _, fun _ => rfl⟩
  · have key : ∃ T' : List (Nd (Cd n)), Moved W1 w1 t wd T' bs ms x ∧ T'.length ≤ T.length + 1 ∧ T'.length ≤ 2 * (lives T').length + 16 := by
      rcases ho with ⟨-, -, m⟩ | ⟨j, nd, hj, -, hl, -, (⟨hdd, m⟩ | ⟨-, cs, hp, hr, m⟩)⟩
      · exact ⟨T, m, by omega, hI⟩
      · refine ⟨_, m, by rw [setLive_len]; omega, ?_⟩
        have := lives_len T j nd false hj
        have h1 := h.tr.live
        have h2 := h.tr.all
        rw [setLive_len]
        simp [hl] at this
        omega
      · have hnd : (cs).Nodup := hr.imp fun {a b} hab e => by subst e; exact List.lt_irrefl _ hab
        obtain ⟨-, g2, g3⟩ := hangs_wf dC_zero cs [] (WF.nil dC) (by simpa using hnd)
        have hc1 : cs.length ≤ T.length := by
          rw [hp.length_eq]
          have := lives_len T j nd false hj
          have h1 := h.tr.live
          have h2 := h.tr.all
          simp [hl] at this
          omega
        have g4 : (lives (hangs dC [] cs)).length = cs.length := by rw [g2]; simp [lives]
        have g5 : (hangs dC [] cs).length = cs.length := by rw [g3]; simp
        refine ⟨_, m, by omega, by omega⟩
    obtain ⟨T', m, hl1, hl2⟩ := key
    obtain ⟨bs', ms', x', o, hx⟩ := moved T' m
    exact ⟨T', bs', ms', x', 0, 0, y, 0, 0, 0, 0, 0, none, 0, o, hl1, hl2, by rw [hx, hlk0], rfl, Nat.zero_le _, Nat.le_refl _, fun _ => rfl⟩
  · exact ⟨T, bs, ms, x, 0, 0, y, 0, 0, 0, 0, 0, none, 0, same _ hb hst, by omega, hI, hlk0.symm, rfl, Nat.zero_le _, Nat.le_refl _, fun _ => rfl⟩
  · rcases ho with ⟨-, h2, hb⟩ | ⟨-, -, h2, hb⟩ | ⟨hs, v', nv, -, -, h2, sr⟩
    · cases h2
      exact ⟨T, bs, ms, x, 0, 0, false, 11, 0, 0, 0, d, none, 0, same _ hb hst, by omega, hI, hlk0.symm, rfl, Nat.zero_le _, Nat.le_refl _, fun _ => rfl⟩
    · cases h2
      exact ⟨T, bs, ms, x, 0, 0, false, 101, 0, 0, 0, d, none, 0, same _ hb hst, by omega, hI, hlk0.symm, rfl, Nat.zero_le _, Nat.le_refl _, fun _ => rfl⟩
    · cases h2
      obtain ⟨va, vc, rfl, -⟩ := slice_form sr.row
      exact ⟨T, bs, ms, _, nv, _, false, 0, 0, 0, 0, d, va, vc, (o1.srch sr).boxed (wd1 := W0) (W1 := W0) (fun k hk e => by have := hft k hk; omega) hgW hst, by omega, hI, rfl, rfl, sr.le, sr.ge, fun hn => absurd ⟨.inl rfl, rfl⟩ hn⟩
  · rcases ho with ⟨-, h2, hb⟩ | ⟨-, -, h2, hb⟩ | ⟨-, -, h2, hb⟩ | ⟨hs, v', nv, -, -, h2, sr⟩
    · cases h2
      exact ⟨T, bs, ms, x, 0, 0, false, 11, 0, 0, 0, d, none, 0, same _ hb hst, by omega, hI, hlk0.symm, rfl, Nat.zero_le _, Nat.le_refl _, fun _ => rfl⟩
    · cases h2
      exact ⟨T, bs, ms, x, 0, 0, false, 100, 0, 0, 0, d, none, 0, same _ hb hst, by omega, hI, hlk0.symm, rfl, Nat.zero_le _, Nat.le_refl _, fun _ => rfl⟩
    · cases h2
      exact ⟨T, bs, ms, x, 0, 0, false, 0, 0, 0, 0, d, none, 0, same _ hb hst, by omega, hI, hlk0.symm, rfl, Nat.zero_le _, Nat.le_refl _, fun _ => rfl⟩
    · cases h2
      obtain ⟨va, vc, rfl, -⟩ := slice_form sr.row
      exact ⟨T, bs, ms, _, nv, _, false, 0, 0, 0, 0, d, va, vc, (o1.srch sr).boxed (wd1 := W0) (W1 := W0) (fun k hk e => by have := hft k hk; omega) hgW hst, by omega, hI, rfl, rfl, sr.le, sr.ge, fun hn => absurd ⟨.inr rfl, rfl⟩ hn⟩
  · exact ⟨T, bs, ms, x, 0, 0, false, 0, a, b, c, d, none, 0, same _ hb hst, by omega, hI, hlk0.symm, rfl, Nat.zero_le _, Nat.le_refl _, fun _ => rfl⟩
/-- What a call may write. -/
theorem do_frame {n : Nat} {wr W' : World} {t wd : Nat} {T : List (Nd (Cd n))} {bs : List Nat} {ms : List (Option Nat)} {x : Num} {K N : Int} {s : ByteArray} {r : Ending} (hd : DoO wr t wd T bs ms x K s N r W') : Stay (fun k => TFoot t bs ms k ∨ wr.heap.size ≤ k) wr W' := by
  obtain ⟨W1, w1, gb, b1, htr1, hg1, hg2, hc, hst⟩ := hd
  have hs1 := b1.size
  have below : ∀ w, Below W1.heap.size W1 w → Stay (fun k => TFoot t bs ms k ∨ wr.heap.size ≤ k) W1 w := fun w b => .below b
  have moved : ∀ (T' : List (Nd (Cd n))) (w : World), Moved W1 w t wd T' bs ms x → Stay (fun k => TFoot t bs ms k ∨ wr.heap.size ≤ k) W1 w := fun T' w m => m.stay.mono (fun k _ e => .inl e)
  have srch : ∀ (w : World) (k b0 nv : Nat) (q : Cd n) (v : Value), Srch W1 w t wd T bs ms x k b0 q v nv → Stay (fun k => TFoot t bs ms k ∨ wr.heap.size ≤ k) W1 w := fun w k b0 nv q v m => m.st.mono (fun k _ e => by
    rcases e with e | e
    · exact .inl (.inl e)
    · exact .inr (by omega))
  have hop : Stay (fun k => TFoot t bs ms k ∨ wr.heap.size ≤ k) W1 w1 := by
    rcases hc with ⟨-, y, e, -, ho⟩ | ⟨-, y, -, ho⟩ | ⟨-, y, -, hb, -⟩ | ⟨-, v, e, d, -, ho, -⟩ | ⟨-, v, e, d, -, ho, -⟩ | ⟨-, a, b, c, d, -, hb, -⟩
    · rcases ho with ⟨-, -, m⟩ | ⟨hs, (⟨-, -, m⟩ | ⟨j, nd, hj, -, (⟨-, -, m⟩ | ⟨hl, -, m⟩)⟩)⟩ <;> exact moved _ _ m
    · rcases ho with ⟨-, -, m⟩ | ⟨j, nd, hj, -, hl, -, (⟨hdd, m⟩ | ⟨-, cs, hp, hr, m⟩)⟩ <;> exact moved _ _ m
    · exact below _ hb
    · rcases ho with ⟨-, h2, hb⟩ | ⟨-, -, h2, hb⟩ | ⟨hs, v', nv, -, -, h2, sr⟩
      · exact below _ hb
      · exact below _ hb
      · exact srch _ _ _ _ _ _ sr
    · rcases ho with ⟨-, h2, hb⟩ | ⟨-, -, h2, hb⟩ | ⟨-, -, h2, hb⟩ | ⟨hs, v', nv, -, -, h2, sr⟩
      · exact below _ hb
      · exact below _ hb
      · exact below _ hb
      · exact srch _ _ _ _ _ _ sr
    · exact below _ hb
  exact ((Stay.below b1).trans hop).andThen hst (fun k _ e => .inr (by omega))
end Go.Proofs.YtnnbcdfpbdmgdaaDoor
