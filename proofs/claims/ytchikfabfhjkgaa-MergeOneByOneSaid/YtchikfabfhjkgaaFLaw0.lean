/-
  DERIVED. A merger over feeds that has not begun; the lists that are given.
-/
import Derived.Test.YtchikfabfhjkgaaFFedW
import Derived.Test.YtchikfabfhjkgaaFPure2
set_option linter.unusedVariables false
set_option linter.unusedSimpArgs false
namespace Go.Proofs.Ytchikfabfhjkgaa.Fd
open Go.RowKit
/-- A merger over feeds that has not begun. -/
theorem MQ.start {w0 W : World} {B m : Nat} {bxs : List (Nat × List En)} {c0 c2 c3 : Value} {R : List (List En)} (hb : Below B w0 W) (hmB : B ≤ m) (hm : Mb W m c0 (.slice none 0 0) c2 c3) (hlen : R.length = bxs.length)
    (hsrc : ∀ (i : Nat) (b : Nat × List En), bxs[i]? = some b → R[i]? = some b.2 ∧ FdAt w0 B W b.1 b.2 0) (hnd : (bxs.map Prod.fst).Nodup) (hup : ∀ r ∈ R, rises r = true) (hs : bxs.length ≤ 1024) (hkp : KeepT 49 w0 W) :
    MQ w0 B m bxs c0 c2 c3 (.slice none 0 0) [] [] [] (R.map some) W :=
  { below := hb, mB := hmB, hm := ⟨_, hm, ⟨⟨rfl, .inl ⟨rfl, rfl⟩⟩, fun _ h => by simp at h⟩, Nat.zero_le _⟩
    rowB := fun u k h1 h2 => by
      rw [hm.cell.1] at h1; cases h1; cases h2
    heap := fun j _ hj => by simp at hj
    len := by rw [List.length_map]; exact hlen
    src := fun i b r h1 h2 => by
      obtain ⟨k1, k2⟩ := hsrc i b h1
      rw [List.getElem?_map, k1] at h2
      cases h2
      have e : usd b.2 (some b.2) = 0 := by simp [usd]
      exact ⟨e ▸ k2, fun l hl => by cases hl; simp⟩
    inj := fun i j b c h1 h2 e => nd_inj hnd (x := b.1) (by rw [List.getElem?_map, h1]; rfl) (by rw [List.getElem?_map, h2, e]; rfl)
    st := fun _ h => by simp at h
    gvt := fun _ h => by simp at h
    stP := fun _ h => by simp at h
    adr := by simp
    nums := by simp
    up := fun _ h => by simp at h
    ups := fun r hr => by
      obtain ⟨x, hx, e⟩ := List.mem_map.1 hr
      cases e; exact hup r hx
    row := ⟨rfl, .inl ⟨rfl, rfl⟩⟩
    apart := fun _ _ _ h => by cases h
    small := hs
    lvB := fun _ h => by cases h
    kp := hkp }
/-- A list that is given: where it lies, and its entries. -/
abbrev Gv := Option Addr × Nat × List En
def gC (p : Gv) : List Value := [.slice p.1 p.2.2.length p.2.1, .int .i64 0, .bool false, .int .i64 0, .bool false]
theorem infoRl : (Try.prog.info? 34).map (fun i => (i.zero, i.size, i.bytes)) = some (some (.agg #[.slice none 0 0, .int .i64 0, .bool false, .int .i64 0, .bool false]), 5, 56) := by kernel_rfl
/-- So far these lists are given. -/
structure GivI (w : World) (ps : List Gv) (gv : Value) (W : World) : Prop where
  row : W.ownsRow 0 34 5 gv ps.length (ps.flatMap gC)
  new : ∀ k, gv.ownBlock = some k → w.heap.size ≤ k
  at' : ∀ p ∈ ps, LAt w p.1 p.2.2 ∧ p.2.2.length < 4611686018427387904
  bl : Below w.heap.size w W
theorem gC_len (ps : List Gv) : (ps.flatMap gC).length = ps.length * 5 := by
  induction ps with
  | nil => rfl
  | cons p ps ih => simp [List.flatMap_cons, ih, gC]; omega
theorem gC_at (ps : List Gv) (i : Nat) (p : Gv) (h : ps[i]? = some p) (k : Nat) (v : Value) (hv : (gC p)[k]? = some v) : (ps.flatMap gC)[i * 5 + k]? = some v := by
  induction ps generalizing i with
  | nil => simp at h
  | cons q ps ih =>
    have hq : (gC q).length = 5 := rfl
    have hk : k < 5 := by have := (List.getElem?_eq_some_iff.1 hv).1; simpa [gC] using this
    rw [List.flatMap_cons]
    cases i with
    | zero =>
      simp at h; subst h
      rw [List.getElem?_append_left (by rw [hq]; omega), Nat.zero_mul, Nat.zero_add]; exact hv
    | succ i =>
      rw [List.getElem?_append_right (by rw [hq]; omega), hq, show (i + 1) * 5 + k - 5 = i * 5 + k by omega]
      exact ih i (by simpa using h)
theorem GivI.gl {w W : World} {ps : List Gv} {gv : Value} (h : GivI w ps gv W) : ∃ a c, gv = .slice a ps.length c ∧ GL W a (ps.map fun p => p.2.2) := by
  obtain ⟨a, c, rfl, -⟩ := slice_form h.row
  refine ⟨a, c, rfl, ⟨fun i r hr => ?_⟩⟩
  rw [List.getElem?_map] at hr
  obtain ⟨p, hp, rfl⟩ : ∃ p, ps[i]? = some p ∧ p.2.2 = r := by
    cases hp : ps[i]? with
    | none => rw [hp] at hr; cases hr
    | some p => rw [hp] at hr; cases hr; exact ⟨p, rfl, rfl⟩
  obtain ⟨h1, h2⟩ := h.at' p (List.mem_of_getElem? hp)
  rcases h.row.2 with ⟨e, e0⟩ | ⟨g, cap, cur, e, -⟩
  · have := (List.getElem?_eq_some_iff.1 hp).1
    omega
  · simp only [Value.slice.injEq] at e
    obtain ⟨rfl, -, rfl⟩ := e
    have cl : ∀ k v, (gC p)[k]? = some v → W.cell? ⟨g, 0 + i * 5 + k, none⟩ = some v := fun k v hv => by
      have := World.ownsRow.cells h.row (g := g) rfl (i * 5 + k) v (gC_at ps i p hp k v hv)
      have e1 : (⟨g, 0, none⟩ : Addr).add (i * 5 + k) = ⟨g, 0 + (i * 5 + k), none⟩ := by unfold Addr.add; split <;> simp_all
      rw [e1, ← Nat.add_assoc] at this; exact this
    exact ⟨g, 0, p.1, p.2.1, rfl, ⟨cl 0 _ rfl, cl 1 _ rfl, cl 2 _ rfl, cl 3 _ rfl, cl 4 _ rfl⟩, h1.below h.bl, h2⟩
/-- One more list is given. -/
theorem GivI.more {w W : World} {ps : List Gv} {gv : Value} (h : GivI w ps gv W) (p : Gv) (hp : LAt w p.1 p.2.2) (hl : p.2.2.length < 4611686018427387904) (hk : ps.length < 1024) :
    ∃ a' c' w', (Builtin.append_ #[32, 32] 32 #[gv, .slice (some ⟨W.heap.size, 0, none⟩) 1 1]).run Try.prog (W.alloc (.cells #[.slice p.1 p.2.2.length p.2.1, .int .i64 0, .bool false, .int .i64 0, .bool false] 34)) = .ok (.slice a' (ps.length + 1) c') w' ∧ GivI w (ps ++ [p]) (.slice a' (ps.length + 1) c') w' := by
  obtain ⟨i0, hi0, hz0, hz1, hz2⟩ := info_parts infoRl
  have bA : Below W.heap.size W (W.alloc (.cells (gC p).toArray 34)) := (Below.refl _ W).alloc (Nat.le_refl _) _
  have ho2 := row_kept h.row (F := fun _ => False) (.below bA) (fun _ _ h => h)
  obtain ⟨v', w', hap, ho', hg, -, hloc⟩ := run_append_own_at (P := Try.prog) (W.alloc (.cells (gC p).toArray 34)) 0 32 32 34 i0 _ 5 56 Try.underlying32 hi0 hz0 hz1 hz2 rfl (by decide) _ ps.length _ ho2 ⟨W.heap.size, 0, none⟩ 1 1 (gC p) rfl (fun j u hu => new_cells W (gC p) 34 j u hu) (fun u hu => by simp [gC] at hu; rcases hu with rfl | rfl | rfl | rfl | rfl <;> rfl) (by unfold maxLen; omega) (by omega) (Nat.zero_le _)
  have st : Stay (fun k => gv.ownBlock = some k) (W.alloc (.cells (gC p).toArray 34)) w' := .grown hg (fun k hk => hk)
  obtain ⟨a', c', rfl, -⟩ := slice_form ho'
  have hB0 : w.heap.size ≤ W.heap.size := h.bl.size
  refine ⟨a', c', w', hap, ?_, fun k hk => ?_, fun q hq => ?_, ?_⟩
  · have : (ps ++ [p]).length = ps.length + 1 := by simp
    rw [this, List.flatMap_append]
    simpa using ho'
  · rcases hloc with e | e
    · exact h.new k (e.symm.trans hk)
    · rw [e] at hk; cases hk
      exact Nat.le_trans hB0 bA.size
  · rcases List.mem_append.1 hq with k | k
    · exact h.at' q k
    · simp at k; subst k; exact ⟨hp, hl⟩
  · exact (chain h.bl bA (Nat.le_refl _)).trans (st.toBelow (fun k hk e => by have := h.new k e; omega) (Nat.le_trans hB0 bA.size))
end Go.Proofs.Ytchikfabfhjkgaa.Fd
