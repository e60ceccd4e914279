/-
  DERIVED. Feeds are made of lists, and sources of them.
-/
import Derived.Test.YtchikfabfhjkgaaFNext
import Derived.Test.YtchikfabfhjkgaaMMerge
set_option linter.unusedVariables false
set_option linter.unusedSimpArgs false
namespace Go.Proofs.Ytchikfabfhjkgaa.Fd
open Go.RowKit
/-- Lists that are given, in a row. -/
structure GL (w : World) (la : Option Addr) (R : List (List En)) : Prop where
  at' : ∀ (i : Nat) (r : List En), R[i]? = some r → ∃ lb lo a c, la = some ⟨lb, lo, none⟩ ∧ (w.cell? ⟨lb, lo + i * 5, none⟩ = some (.slice a r.length c) ∧ w.cell? ⟨lb, lo + i * 5 + 1, none⟩ = some (.int .i64 0) ∧ w.cell? ⟨lb, lo + i * 5 + 2, none⟩ = some (.bool false) ∧ w.cell? ⟨lb, lo + i * 5 + 3, none⟩ = some (.int .i64 0) ∧ w.cell? ⟨lb, lo + i * 5 + 4, none⟩ = some (.bool false)) ∧ LAt w a r ∧ r.length < 4611686018427387904
/-- So far these feeds and sources are made. -/
structure FedI (R : List (List En)) (w : World) (bf bs : List (Nat × List En)) (fv sv : Value) (W : World) : Prop where
  fo : W.ownsRow 0 49 1 fv bf.length (bf.map fun b => .pointer (some ⟨b.1, 0, none⟩))
  so : W.ownsRow 0 46 1 sv bs.length (bs.map fun b => fdV b.1)
  fB : ∀ k, fv.ownBlock = some k → w.heap.size ≤ k
  sB : ∀ k, sv.ownBlock = some k → w.heap.size ≤ k
  fd : ∀ (j : Nat) (b : Nat × List En), bf[j]? = some b → R[j]? = some b.2 ∧ FdAt w w.heap.size W b.1 b.2 0
  nd : (bf.map Prod.fst).Nodup
  bl : Below w.heap.size w W
theorem infoPf : (Try.prog.info? 49).map (fun i => (i.zero, i.size, i.bytes)) = some (some (.pointer none), 1, 8) := by kernel_rfl
theorem FedI.later {R : List (List En)} {w W W' : World} {bf bs : List (Nat × List En)} {fv sv : Value} (h : FedI R w bf bs fv sv W) (b : Below W.heap.size W W') : FedI R w bf bs fv sv W' where
  fo := row_kept h.fo (F := fun _ => False) (.below b) (fun _ _ h => h)
  so := row_kept h.so (F := fun _ => False) (.below b) (fun _ _ h => h)
  fB := h.fB
  sB := h.sB
  fd := fun j x hx => ⟨(h.fd j x hx).1, (h.fd j x hx).2.below b⟩
  nd := h.nd
  bl := chain h.bl b (Nat.le_refl _)
/-- A feed is made. -/
theorem FedI.made {R : List (List En)} {w W : World} {bs : List (Nat × List En)} {fv sv : Value} {r : List En} {a : Option Addr} {c : Nat} (h : FedI R w bs bs fv sv W) (hr : R[bs.length]? = some r) (hL : LAt w a r) (hrl : r.length < 4611686018427387904) (hk : bs.length < 1024) (W1 : World) (hW1 : W1 = W.alloc (.cells #[.slice a r.length c, .int .i64 0, .bool false, .int .i64 0, .bool false, .int .i64 0] 48)) :
    ∃ a' c' w', (Builtin.append_ #[36, 36] 36 #[fv, .slice (some ⟨W1.heap.size, 0, none⟩) 1 1]).run Try.prog (W1.alloc (.cells #[.pointer (some ⟨W.heap.size, 0, none⟩)] 49)) = .ok (.slice a' (bs.length + 1) c') w' ∧ FedI R w (bs ++ [(W.heap.size, r)]) bs (.slice a' (bs.length + 1) c') sv w' := by
  obtain ⟨i0, hi0, hz0, hz1, hz2⟩ := info_parts infoPf
  have b1 : Below W.heap.size W W1 := by rw [hW1]; exact (Below.refl _ W).alloc (Nat.le_refl _) _
  have hF : W1.heap[W.heap.size]? = some (.cells #[.slice a r.length c, .int .i64 0, .bool false, .int .i64 0, .bool false, .int .i64 0] 48 (0, 0)) := by rw [hW1]; exact heap_alloc_last W _
  have bA : Below W1.heap.size W1 (W1.alloc (.cells #[.pointer (some ⟨W.heap.size, 0, none⟩)] 49)) := (Below.refl _ W1).alloc (Nat.le_refl _) _
  have h2 := (h.later b1).later bA
  have hF2 := (bA.block _ (Array.getElem?_eq_some_iff.1 hF).1).trans hF
  have hB0 : w.heap.size ≤ W.heap.size := h.bl.size
  have hnew : FdAt w w.heap.size (W1.alloc (.cells #[.pointer (some ⟨W.heap.size, 0, none⟩)] 49)) W.heap.size r 0 := ⟨⟨a, c, hF2, fun hn => by
    obtain ⟨g, off, e, hra⟩ := hL.at' hn
    exact ⟨g, off, e, hL.lt e hn, hra⟩, hrl⟩, hB0⟩
  have hnd : ∀ x ∈ bs.map Prod.fst, x ≠ W.heap.size := fun x hx e => by
    obtain ⟨b, hb, rfl⟩ := List.mem_map.1 hx
    obtain ⟨j, hj, rfl⟩ := List.getElem_of_mem hb
    have := (h.fd j _ (List.getElem?_eq_getElem hj)).2.lt
    omega
  obtain ⟨W2, hW2⟩ : ∃ W2, W2 = W1.alloc (.cells #[.pointer (some ⟨W.heap.size, 0, none⟩)] 49) := ⟨_, rfl⟩
  have hnc := fun j u hu => new_cells W1 [.pointer (some ⟨W.heap.size, 0, none⟩)] 49 j u hu
  obtain ⟨v', w', hap, ho', hg, -, hloc⟩ := run_append_own_at (P := Try.prog) (W1.alloc (.cells #[.pointer (some ⟨W.heap.size, 0, none⟩)] 49)) 0 36 36 49 i0 _ 1 8 Try.underlying36 hi0 hz0 hz1 hz2 rfl (by decide) _ bs.length _ h2.fo ⟨W1.heap.size, 0, none⟩ 1 1 [.pointer (some ⟨W.heap.size, 0, none⟩)] rfl hnc (fun u hu => by simp at hu; subst hu; rfl) (by unfold maxLen; omega) (by omega) (Nat.zero_le _)
  have st : Stay (fun k => fv.ownBlock = some k) (W1.alloc (.cells #[.pointer (some ⟨W.heap.size, 0, none⟩)] 49)) w' := .grown hg (fun k hk => hk)
  obtain ⟨a', c', rfl, -⟩ := slice_form ho'
  have hone : ∀ k, fv.ownBlock = some k → ∃ cur, (W1.alloc (.cells #[.pointer (some ⟨W.heap.size, 0, none⟩)] 49)).heap[k]? = some (.cells cur 49 (0, 0)) := fun k hk => row_block h2.fo hk
  have hkeep : ∀ (b : Nat) (X : List En) (u : Nat), FdAt w w.heap.size (W1.alloc (.cells #[.pointer (some ⟨W.heap.size, 0, none⟩)] 49)) b X u → FdAt w w.heap.size w' b X u := fun b X u hx => hx.same (st.block b hx.lt (fun e => by
    obtain ⟨cur, hcur⟩ := hone b e
    obtain ⟨la, cap, h1, -⟩ := hx.ex
    rw [hcur] at h1
    simp at h1))
  refine ⟨a', c', w', hap, ?_, ?_, fun k hk => ?_, h.sB, fun j b hj => ?_, ?_, ?_⟩
  · have : (bs ++ [(W.heap.size, r)]).length = bs.length + 1 := by simp
    rw [this, List.map_append]
    exact ho'
  · exact row_kept h2.so st (fun k hk e => by
      obtain ⟨cur, hcur⟩ := hone k e
      obtain ⟨cur', hcur'⟩ := row_block h2.so hk
      rw [hcur] at hcur'; simp at hcur')
  · rcases hloc with e | e
    · exact h.fB k (e.symm.trans hk)
    · rw [e] at hk; cases hk
      exact Nat.le_trans hB0 (Nat.le_trans b1.size bA.size)
  · rcases Nat.lt_or_ge j bs.length with h1 | h1
    · rw [List.getElem?_append_left h1] at hj
      exact ⟨(h2.fd j b hj).1, hkeep _ _ _ (h2.fd j b hj).2⟩
    · rw [List.getElem?_append_right h1] at hj
      obtain ⟨h3, h4⟩ := List.getElem?_eq_some_iff.1 hj
      simp at h3 h4
      have : j = bs.length := by omega
      subst this
      subst h4
      exact ⟨hr, hkeep _ _ _ hnew⟩
  · rw [List.map_append]
    refine List.nodup_append.2 ⟨h.nd, by simp, fun x hx y hy e => ?_⟩
    simp at hy; subst hy
    exact hnd x hx e
  · exact h2.bl.trans (st.toBelow (fun k hk e => by have := h.fB k e; omega) (Nat.le_trans hB0 (Nat.le_trans b1.size bA.size)))
/-- A source is made of a feed. -/
theorem FedI.sourced {R : List (List En)} {w W : World} {bs : List (Nat × List En)} {b : Nat × List En} {fv sv : Value} (h : FedI R w (bs ++ [b]) bs fv sv W) (hk : bs.length < 1024) :
    ∃ a' c' w', (Builtin.append_ #[37, 37] 37 #[sv, .slice (some ⟨W.heap.size, 0, none⟩) 1 1]).run Try.prog (W.alloc (.cells #[fdV b.1] 46)) = .ok (.slice a' (bs.length + 1) c') w' ∧ FedI R w (bs ++ [b]) (bs ++ [b]) fv (.slice a' (bs.length + 1) c') w' := by
  obtain ⟨i0, hi0, hz0, hz1, hz2⟩ := info_parts infoSrc
  have bA : Below W.heap.size W (W.alloc (.cells #[fdV b.1] 46)) := (Below.refl _ W).alloc (Nat.le_refl _) _
  have h2 := h.later bA
  have hB0 : w.heap.size ≤ W.heap.size := h.bl.size
  obtain ⟨v', w', hap, ho', hg, -, hloc⟩ := run_append_own_at (P := Try.prog) (W.alloc (.cells #[fdV b.1] 46)) 0 37 37 46 i0 _ 1 8 Try.underlying37 hi0 hz0 hz1 hz2 rfl (by decide) _ bs.length _ h2.so ⟨W.heap.size, 0, none⟩ 1 1 [fdV b.1] rfl (fun j u hu => new_cells W [fdV b.1] 46 j u hu) (fun u hu => by simp at hu; subst hu; rfl) (by unfold maxLen; omega) (by omega) (Nat.zero_le _)
  have st : Stay (fun k => sv.ownBlock = some k) (W.alloc (.cells #[fdV b.1] 46)) w' := .grown hg (fun k hk => hk)
  obtain ⟨a', c', rfl, -⟩ := slice_form ho'
  have hone : ∀ k, sv.ownBlock = some k → ∃ cur, (W.alloc (.cells #[fdV b.1] 46)).heap[k]? = some (.cells cur 46 (0, 0)) := fun k hk => row_block h2.so hk
  refine ⟨a', c', w', hap, ?_, ?_, h.fB, fun k hk => ?_, fun j x hj => ⟨(h2.fd j x hj).1, (h2.fd j x hj).2.same (st.block x.1 (h2.fd j x hj).2.lt (fun e => ?_))⟩, h.nd, ?_⟩
  · exact row_kept h2.fo st (fun k hk e => by
      obtain ⟨cur, hcur⟩ := hone k e
      obtain ⟨cur', hcur'⟩ := row_block h2.fo hk
      rw [hcur] at hcur'; simp at hcur')
  · have : (bs ++ [b]).length = bs.length + 1 := by simp
    rw [this, List.map_append]
    exact ho'
  · rcases hloc with e | e
    · exact h.sB k (e.symm.trans hk)
    · rw [e] at hk; cases hk
      exact Nat.le_trans hB0 bA.size
  · obtain ⟨cur, hcur⟩ := hone x.1 e
    obtain ⟨la, cap, h1, -⟩ := (h2.fd j x hj).2.ex
    rw [hcur] at h1
    simp at h1
  · exact h2.bl.trans (st.toBelow (fun k hk e => by have := h.sB k e; omega) (Nat.le_trans hB0 bA.size))
end Go.Proofs.Ytchikfabfhjkgaa.Fd
