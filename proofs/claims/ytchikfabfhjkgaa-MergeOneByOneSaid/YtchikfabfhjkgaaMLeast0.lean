/-
  DERIVED. The sources at the least place are taken out: what stands meanwhile.
-/
import Derived.Test.YtchikfabfhjkgaaMOrd
set_option linter.unusedVariables false
set_option linter.unusedSimpArgs false
namespace Go.Proofs.Ytchikfabfhjkgaa
open Go.RowKit
theorem FrM.at' {m : Nat} {c0 av c2 c3 : Value} {W W' : World} (f : FrM m W W') (hm : Mb W m c0 av c2 c3) (k : Nat) (hk : k < W.heap.size) (h1 : k ≠ m) (h2 : av.ownBlock ≠ some k) : W'.heap[k]? = W.heap[k]? :=
  f.block k hk h1 (fun u hu => by rw [hm.cell.1] at hu; cases hu; exact h2)
theorem StAt.frm {W W' : World} {s : St} {m : Nat} {c0 av c2 c3 : Value} {ys : List St} (h : StAt W s) (hm : Mb W m c0 av c2 c3) (hr : SRow W av ys) (f : FrM m W W') : StAt W' s :=
  (f.at' hm s.a (Array.getElem?_eq_some_iff.1 h).1 (hm.st h) (fun e => hr.apart e h rfl)).trans h
theorem SRow.frm {W W' : World} {v : Value} {xs ys : List St} {m : Nat} {c0 av c2 c3 : Value} (h : SRow W v xs) (hm : Mb W m c0 av c2 c3) (hr : SRow W av ys) (f : FrM m W W') (ha : ∀ k, v.ownBlock = some k → av.ownBlock ≠ some k) : SRow W' v xs := by
  refine ⟨?_, fun x hx => (h.st x hx).frm hm hr f⟩
  rcases h.own with ⟨h1, h2 | ⟨g, cap, cur, h2, h3, h4, h5⟩⟩
  · exact ⟨h1, .inl h2⟩
  · have hg : v.ownBlock = some g := by rw [h2]; rfl
    exact ⟨h1, .inr ⟨g, cap, cur, h2, h3, (f.at' hm g (Array.getElem?_eq_some_iff.1 h4).1 (hm.apart h.own hg) (ha g hg)).trans h4, h5⟩⟩
/-- What stands while the least ones are taken out. -/
structure LI (m : Nat) (c0 c2 c3 : Value) (xs : List St) (w : World) (lv : Value) (L ys : List St) (wr : World) : Prop where
  hm : HM m c0 c2 c3 ys wr
  heap : HeapN ltS ys ys.length
  row : SRow wr lv L
  apart : ∀ k av, lv.ownBlock = some k → wr.cell? ⟨m, 1, none⟩ = some av → av.ownBlock ≠ some k
  perm : (L ++ ys).Perm xs
  le : ∀ a ∈ L, ∀ b ∈ ys, ltS b a = false
  srt : L.Pairwise (fun a b => ltS b a = false)
  same : ∀ a ∈ L, ∀ b ∈ L, cpE a.e b.e = 0
  fr : FrM m w wr
  new : ∀ k, lv.ownBlock = some k → w.heap.size ≤ k
theorem cpE_two {a b c : En} (h1 : cpE a b = 0) (h2 : cpE b c = 0) : cpE a c = 0 := by
  have t1 := (cpE_tr a b c (by omega) (by omega)).1
  have r1 := cpE_rev a b
  have r2 := cpE_rev b c
  have r3 := cpE_rev a c
  have t2 := (cpE_tr c b a (by omega) (by omega)).1
  omega
theorem LI.pop {m : Nat} {c0 c2 c3 : Value} {xs : List St} {w : World} {lv : Value} {L ys : List St} {wr : World} (h : LI m c0 c2 c3 xs w lv L ys wr) {ys' : List St} {x : St} (hx : ys[0]? = some x) (hp : (x :: ys').Perm ys) (hh : HeapN ltS ys' ys'.length) (hle : ∀ b ∈ ys', ltS b x = false)
    (hs : ∀ a ∈ L, cpE x.e a.e = 0) {w2 w3 : World} {v' : Value} (h2 : HM m c0 c2 c3 ys' w2) (f2 : FrM m wr w2) (ho : w3.ownsRow 0 94 1 v' (L ++ [x]).length ((L ++ [x]).map Pp)) (s3 : Stay (fun k => lv.ownBlock = some k) w2 w3) (hloc : ∀ k, v'.ownBlock = some k → lv.ownBlock = some k ∨ w2.heap.size ≤ k) :
    LI m c0 c2 c3 xs w v' (L ++ [x]) ys' w3 := by
  obtain ⟨av, hm, hr, hl⟩ := h.hm
  obtain ⟨av2, hm2, hr2, hl2⟩ := h2
  have hxm : x ∈ ys := List.mem_of_getElem? hx
  have hlt : ∀ k, lv.ownBlock = some k → k < wr.heap.size := fun k hk => row_lt h.row.own hk
  have ap2 : ∀ k, lv.ownBlock = some k → av2.ownBlock ≠ some k := fun k hk e => by
    rcases f2.loc k av2 hm2.cell.1 e with ⟨u, h1, h3⟩ | h1
    · exact h.apart k u hk h1 h3
    · have := hlt k hk; omega
  have hL2 : SRow w2 lv L := h.row.frm hm hr f2 (fun k hk => h.apart k av hk hm.cell.1)
  have hx2 : StAt w2 x := (hr.st x hxm).frm hm hr f2
  have hlm : ∀ k, lv.ownBlock = some k → k ≠ m := fun k hk => hm2.apart hL2.own hk
  have hst : ∀ s, StAt w2 s → StAt w3 s := fun s hs => (s3.block s.a (Array.getElem?_eq_some_iff.1 hs).1 (fun e => hL2.apart e hs rfl)).trans hs
  have hm3 : Mb w3 m c0 av2 c2 c3 := (s3.block m (Array.getElem?_eq_some_iff.1 hm2).1 (fun e => hlm m e rfl)).trans hm2
  have hr3 : SRow w3 av2 ys' := ⟨row_kept hr2.own s3 (fun k hk e => ap2 k e hk), fun s hs => hst s (hr2.st s hs)⟩
  refine ⟨⟨av2, hm3, hr3, hl2⟩, hh, ⟨ho, fun s hs => ?_⟩, fun k u hk hu => ?_, ?_, ?_, ?_, ?_, ?_, ?_⟩
  · rcases List.mem_append.1 hs with h1 | h1
    · exact hst s (hL2.st s h1)
    · simp at h1; subst h1; exact hst s hx2
  · rw [hm3.cell.1] at hu; cases hu
    intro e
    rcases hloc k hk with h1 | h1
    · exact ap2 k h1 e
    · have := row_lt hr2.own e; omega
  · refine List.Perm.trans ?_ h.perm
    rw [List.append_assoc]
    exact (hp).append_left L
  · intro a ha b hb
    rcases List.mem_append.1 ha with h1 | h1
    · exact h.le a h1 b (hp.mem_iff.1 (List.mem_cons_of_mem _ hb))
    · simp at h1; subst h1; exact hle b hb
  · rw [List.pairwise_append]
    refine ⟨h.srt, by simp, fun a ha b hb => ?_⟩
    simp at hb; subst hb
    exact h.le a ha b hxm
  · intro a ha b hb
    rcases List.mem_append.1 ha with h1 | h1
    · rcases List.mem_append.1 hb with k1 | k1
      · exact h.same a h1 b k1
      · simp at k1; subst k1
        have := hs a h1
        have r := cpE_rev b.e a.e
        omega
    · simp at h1; subst h1
      rcases List.mem_append.1 hb with k1 | k1
      · exact hs b k1
      · simp at k1; subst k1; exact cpE_self _
  · have fx := h.fr.trans f2
    refine ⟨s3.os.trans fx.os, s3.tape.trans fx.tape, s3.output.trans fx.output, Nat.le_trans fx.size s3.size, fun k hk hne hA => ?_, fun k u hu he => ?_⟩
    · exact (s3.block k (Nat.lt_of_lt_of_le hk fx.size) (fun e => by have := h.new k e; omega)).trans (fx.block k hk hne hA)
    · rw [hm3.cell.1] at hu; cases hu
      exact fx.loc k av2 hm2.cell.1 he
  · intro k hk
    rcases hloc k hk with h1 | h1
    · exact h.new k h1
    · exact Nat.le_trans (h.fr.trans f2).size h1
/-- One stand is put behind a row of stands. -/
theorem st_app (W : World) (L : List St) (x : St) (v : Value) (h : W.ownsRow 0 94 1 v L.length (L.map Pp)) (hl : L.length < 100000) :
    ∃ v' w', (Builtin.append_ #[78, 78] 78 #[v, .slice (some ⟨W.heap.size, 0, none⟩) 1 1]).run Try.prog (W.alloc (.cells #[Pp x] 94)) = .ok v' w' ∧ w'.ownsRow 0 94 1 v' (L ++ [x]).length ((L ++ [x]).map Pp) ∧ Stay (fun k => v.ownBlock = some k) W w' ∧ (∀ k, v'.ownBlock = some k → v.ownBlock = some k ∨ W.heap.size ≤ k) := by
  obtain ⟨i0, hi0, hz0, hz1, hz2⟩ := info_parts infoPs
  obtain ⟨v', w', hap, ho, hg, -, hloc⟩ := run_append_own_at (P := Try.prog) (W.alloc (.cells #[Pp x] 94)) 0 78 78 94 i0 _ 1 8 Try.underlying78 hi0 hz0 hz1 hz2 rfl (by decide) v L.length _ (h.alloc _) ⟨W.heap.size, 0, none⟩ 1 1 [Pp x] rfl (new_cells W [Pp x] 94) (by simp [Value.oneCell']) (by unfold maxLen; omega) (by omega) (Nat.zero_le _)
  refine ⟨v', w', hap, by rw [List.length_append, List.map_append]; exact ho, ((Stay.refl _ W).alloc _).trans (.grown hg (fun k hk => hk)), fun k hk => ?_⟩
  rcases hloc with e | e
  · exact .inl (e ▸ hk)
  · rw [e] at hk; cases hk; right; simp
end Go.Proofs.Ytchikfabfhjkgaa
