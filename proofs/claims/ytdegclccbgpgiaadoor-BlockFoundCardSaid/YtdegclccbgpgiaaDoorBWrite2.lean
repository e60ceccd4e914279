/-
  DERIVED. What holds while the index is put behind the blocks.
-/
import Derived.Test.YtdegclccbgpgiaaDoorBWrite1
set_option linter.unusedVariables false
set_option linter.unusedSimpArgs false
namespace Go.Proofs.YtdegclccbgpgiaaDoor
open Go.RowKit Go.Shelf Go.Proofs.SealMath
structure WJ (w : World) (fb ab lb sb D : Nat) (K : Nat → Prop) (l : List UInt8) (sm : Nat) (v lv : Value) (s : Option Nat) (A : World) : Prop where
  file : Bd A fb (Pt fb) v l
  add : Boxed A ab 94 (.func (.func 40) #[] #[Pt fb])
  line : Boxed A lb 96 lv
  sum : Boxed A sb 97 (.int .u32 sm)
  bel : Below w.heap.size w A
  dfr : A.heap[D]? = some (.deferred (some []))
  lo : ∀ k, (k = fb ∨ v.ownBlock = some k) → w.heap.size ≤ k
  apK : ∀ k, K k → ¬ (k = fb ∨ v.ownBlock = some k) ∧ k < A.heap.size
  apS : ∀ k, s = some k → ¬ (k = fb ∨ v.ownBlock = some k ∨ k = ab ∨ k = lb ∨ k = sb ∨ k = D) ∧ k < A.heap.size
section
variable {w A B : World} {fb ab lb sb D : Nat} {K : Nat → Prop} {l : List UInt8} {sm : Nat} {v lv : Value} {s s' : Option Nat}
theorem WJ.cells (h : WJ w fb ab lb sb D K l sm v lv s A) : ∀ k, (k = fb ∨ v.ownBlock = some k) → ∃ c t, A.heap[k]? = some (.cells c t (0, 0)) ∧ t ≠ 94 ∧ t ≠ 96 ∧ t ≠ 97 := by
  rintro k (rfl | hk)
  · exact ⟨_, _, h.file.cells, by decide, by decide, by decide⟩
  · obtain ⟨c, hc⟩ := row_block h.file.row hk; exact ⟨_, _, hc, by decide, by decide, by decide⟩
theorem WJ.lt (h : WJ w fb ab lb sb D K l sm v lv s A) {k : Nat} (hk : k = fb ∨ v.ownBlock = some k ∨ k = ab ∨ k = lb ∨ k = sb ∨ k = D) : k < A.heap.size := by
  rcases hk with e | e | rfl | rfl | rfl | rfl
  · obtain ⟨c, t, hc, _⟩ := h.cells k (.inl e); exact (Array.getElem?_eq_some_iff.1 hc).1
  · obtain ⟨c, t, hc, _⟩ := h.cells k (.inr e); exact (Array.getElem?_eq_some_iff.1 hc).1
  · exact h.add.lt
  · exact h.line.lt
  · exact h.sum.lt
  · exact (Array.getElem?_eq_some_iff.1 h.dfr).1
theorem WJ.stay {F : Nat → Prop} (h : WJ w fb ab lb sb D K l sm v lv s A) (st : Stay F A B) (hF : ∀ k, (k = fb ∨ v.ownBlock = some k ∨ k = ab ∨ k = lb ∨ k = sb ∨ k = D) → ¬ F k) (hlo : ∀ k, k < w.heap.size → ¬ F k) (hs' : ∀ k, s' = some k → (s = some k ∨ A.heap.size ≤ k) ∧ k < B.heap.size) : WJ w fb ab lb sb D K l sm v lv s' B where
  file := h.file.kept st (hF _ (.inl rfl)) (fun k hk => hF k (.inr (.inl hk)))
  add := box_stay h.add st (hF _ (.inr (.inr (.inl rfl))))
  line := box_stay h.line st (hF _ (.inr (.inr (.inr (.inl rfl)))))
  sum := box_stay h.sum st (hF _ (.inr (.inr (.inr (.inr (.inl rfl))))))
  bel := h.bel.trans (st.toBelow hlo h.bel.size)
  dfr := (st.block D (h.lt (.inr (.inr (.inr (.inr (.inr rfl)))))) (hF _ (.inr (.inr (.inr (.inr (.inr rfl))))))).trans h.dfr
  lo := h.lo
  apK := fun k hk => ⟨(h.apK k hk).1, Nat.lt_of_lt_of_le (h.apK k hk).2 st.size⟩
  apS := fun k hk => by
    obtain ⟨h1 | h1, h2⟩ := hs' k hk
    · exact ⟨(h.apS k h1).1, h2⟩
    · exact ⟨fun hc => by have := h.lt hc; omega, h2⟩
theorem WJ.tr (h : WJ w fb ab lb sb D K l sm v lv s A) (ht : TrB s A s' B) (hs : ∀ k, s = some k → w.heap.size ≤ k) : WJ w fb ab lb sb D K l sm v lv s' B :=
  h.stay ht.stay (fun k hk e => (h.apS k e).1 hk) (fun k hk e => by have := hs k e; omega) (fun k hk => ⟨ht.loc k hk, ht.lt k hk⟩)
theorem WJ.own {lo : Nat} {row : Option Nat} (h : WJ w fb ab lb sb D K l sm v lv s A) (hg : A.grownBy B row) (hr : ∀ r, row = some r → lo ≤ r ∧ ∃ o : Obj, A.heap[r]? = some o ∧ o.isCells = false) (hl : w.heap.size ≤ lo) (hD : D < lo) : WJ w fb ab lb sb D K l sm v lv s B :=
  h.stay (F := fun k => row = some k) (.grown hg (fun k e => e)) (fun k hk e => by
    obtain ⟨h0, o, ho, hc⟩ := hr k e
    have key : ∀ c t m, A.heap[k]? = some (.cells c t m) → False := fun c t m h1 => by rw [h1] at ho; cases ho; cases hc
    rcases hk with e | e | rfl | rfl | rfl | rfl
    · obtain ⟨c, t, h1, _⟩ := h.cells k (.inl e); exact key _ _ _ h1
    · obtain ⟨c, t, h1, _⟩ := h.cells k (.inr e); exact key _ _ _ h1
    · exact key _ _ _ h.add
    · exact key _ _ _ h.line
    · exact key _ _ _ h.sum
    · omega) (fun k hk e => by have := (hr k e).1; omega) (fun k hk => ⟨.inl hk, Nat.lt_of_lt_of_le (h.apS k hk).2 hg.size⟩)
theorem WJ.kp (h : WJ w fb ab lb sb D K l sm v lv s A) (st : Stay (fun k => k = fb ∨ v.ownBlock = some k) A B) : KpB K s A B ∧ KeepsOthers A B := by
  refine ⟨⟨st.size, fun k c t m hk hc => (st.block k (Array.getElem?_eq_some_iff.1 hc).1 (fun e => ?_)).trans hc⟩, ⟨st.size, fun k o hk ho => (st.block k (Array.getElem?_eq_some_iff.1 hk).1 (fun hc => ?_)).trans hk⟩⟩
  · rcases hk with hk | hk
    · exact (h.apK k hk).1 e
    · exact (h.apS k hk).1 (e.elim .inl (fun e => .inr (.inl e)))
  · obtain ⟨c, t, h1, _⟩ := h.cells k hc
    rw [hk] at h1; cases h1; cases ho
theorem WJ.below (h : WJ w fb ab lb sb D K l sm v lv s A) (b : Below A.heap.size A B) : WJ w fb ab lb sb D K l sm v lv s B :=
  h.stay (F := fun _ => False) (.below b) (fun _ _ e => e) (fun _ _ e => e) (fun k hk => ⟨.inl hk, Nat.lt_of_lt_of_le (h.apS k hk).2 b.size⟩)
theorem WJ.file' {l' : List UInt8} {v' : Value} (h : WJ w fb ab lb sb D K l sm v lv s A) (hB : Bd B fb (Pt fb) v' l') (hw : Wrote A B fb v v') : WJ w fb ab lb sb D K l' sm v' lv s B := by
  have st := hw.stay
  have nt : ∀ k c t, A.heap[k]? = some (.cells c t (0, 0)) → (t = 94 ∨ t = 96 ∨ t = 97) → ¬ (k = fb ∨ v.ownBlock = some k) := fun k c t hc ht e => by
    obtain ⟨c', t', h1, n1, n2, n3⟩ := h.cells k e
    rw [hc] at h1; cases h1
    rcases ht with e | e | e
    · exact n1 e
    · exact n2 e
    · exact n3 e
  refine ⟨hB, box_stay h.add st (nt ab _ _ h.add (.inl rfl)), box_stay h.line st (nt lb _ _ h.line (.inr (.inl rfl))), box_stay h.sum st (nt sb _ _ h.sum (.inr (.inr rfl))), h.bel.trans (st.toBelow (fun k hk e => ?_) h.bel.size), ?_, fun k hk => ?_, fun k hk => ?_, fun k hk => ?_⟩
  · have := h.lo k e; omega
  · refine (st.block D (h.lt (.inr (.inr (.inr (.inr (.inr rfl)))))) (fun e => ?_)).trans h.dfr
    obtain ⟨c, t, h1, _⟩ := h.cells D e
    rw [h.dfr] at h1; cases h1
  · rcases hk with e | e
    · exact h.lo k (.inl e)
    · rcases hw.loc k e with e | e
      · exact h.lo k (.inr e)
      · have := h.bel.size; omega
  · obtain ⟨h1, h3⟩ := h.apK k hk
    refine ⟨fun hc => ?_, Nat.lt_of_lt_of_le h3 st.size⟩
    rcases hc with e | e
    · exact h1 (.inl e)
    · rcases hw.loc k e with e | e
      · exact h1 (.inr e)
      · omega
  · obtain ⟨h1, h3⟩ := h.apS k hk
    refine ⟨fun hc => ?_, Nat.lt_of_lt_of_le h3 st.size⟩
    rcases hc with e | e | e
    · exact h1 (.inl e)
    · rcases hw.loc k e with e | e
      · exact h1 (.inr (.inl e))
      · omega
    · exact h1 (.inr (.inr e))
end
theorem lns_mem : ∀ (ps : List (Nat × List En)) (off : Nat) (y : Ln), y ∈ lns off ps → ∃ p ∈ ps, y.e = p.2.headD e0 ∧ y.k = p.2.length ∧ y.p ≤ off + (blkL enB 5 ps).length
  | [], _, _, h => by simp [lns] at h
  | p :: ps, off, y, h => by
    rw [lns] at h
    have hl : (blkL enB 5 (p :: ps)).length = ln enB p.2 + 14 + (blkL enB 5 ps).length := by rw [blkL_len, blkL_len]; simp [ln]; omega
    rcases List.mem_cons.1 h with rfl | h
    · exact ⟨p, by simp, rfl, rfl, by dsimp only; omega⟩
    · obtain ⟨q, hq, h1, h2, h3⟩ := lns_mem ps _ y h
      exact ⟨q, List.mem_cons_of_mem _ hq, h1, h2, by omega⟩
/-- Sizes of a file's parts. -/
theorem hbT_len (h : Hd) (l : List En) (hok : ∀ e ∈ l, Ok e) (hn : l.length ≤ 2097152) : (hbT h l).length ≤ 400000000 ∧ (idx h l).length ≤ l.length ∧ ∀ y ∈ idx h l, OkL y := by
  have hln : ∀ q ∈ l, (enB q).length ≤ 153 := fun q hq => by have := (enB_len q).1; have := (hok q hq).c; omega
  have h1 := pre_len enB 5 153 l hln (by omega) (pk enB l) (List.prefix_refl _)
  have h2 : (hdF h l).length ≤ 74 := by unfold hdF; rw [frL_len]; have := hdB_len h l.length; omega
  have h3 : (153 + 14) * l.length ≤ 167 * 2097152 := Nat.mul_le_mul (by omega) hn
  have h4 : (hbT h l).length ≤ 400000000 := by unfold hbT; rw [List.length_append]; omega
  refine ⟨h4, ?_, fun y hy => ?_⟩
  · unfold idx; rw [lns_len]; exact pk_len enB l (fun q hq => Nat.le_trans (hln q hq) (by omega))
  · obtain ⟨p, hp, e1, e2, e3⟩ := lns_mem _ _ y hy
    obtain ⟨s1, s2, s3, s4⟩ := pk_spec enB l (fun q hq => Nat.le_trans (hln q hq) (by omega)) p hp
    have hm : p.2.headD e0 ∈ l := by
      obtain ⟨z, zs, hz⟩ := List.exists_cons_of_ne_nil s1
      rw [hz]
      have : z ∈ p.2 := by rw [hz]; simp
      rw [← s4] at this
      exact List.mem_of_mem_drop (List.mem_of_mem_take this)
    refine ⟨e1 ▸ hok _ hm, by omega, ?_⟩
    unfold hbT at h4
    rw [List.length_append] at h4
    omega
end Go.Proofs.YtdegclccbgpgiaaDoor
