/-
  DERIVED. The laws' twin and kept.
-/
import Derived.Test.YtibjneoiombbfaaDoorCSame
import Derived.Test.YtibjneoiombbfaaDoorCApp
import Derived.Test.YtibjneoiombbfaaDoorCEnc2
set_option linter.unusedVariables false
set_option linter.unusedSimpArgs false
namespace Go.Proofs.YtibjneoiombbfaaDoor
open Go.RowKit
def r7 : Ru := ⟨-7, 0, 0, 0⟩
/-- A row of runs at a block, with room. -/
def Rw (w : World) (q cp : Nat) (l : List Ru) : Prop := w.ownsRow 0 43 4 (.slice (some ⟨q, 0, none⟩) l.length cp) l.length (l.flatMap ruC)
theorem Rw.row {w : World} {q cp : Nat} {l : List Ru} (h : Rw w q cp l) : RowAt w q 0 (l.flatMap ruC) := fun j x hx => by
  rcases h.2 with ⟨h0, hz⟩ | ⟨g, cap, cur, hv, hbg, hg, hnc, hcm, hcs, htake⟩
  · have : l = [] := List.eq_nil_of_length_eq_zero hz
    rw [this] at hx; simp at hx
  · cases hv
    rw [Nat.zero_add, cell_of_row _ _ j _ _ _ hg]
    have hx2 := hx
    rw [← htake, List.getElem?_take] at hx2
    split at hx2
    · rw [← Array.getElem?_toList]; exact hx2
    · cases hx2
theorem Rw.cap {w : World} {q cp : Nat} {l : List Ru} (h : Rw w q cp l) (hne : l ≠ []) : l.length ≤ cp := by
  rcases h.2 with ⟨h0, hz⟩ | ⟨g, cap, cur, hv, hbg, hg, hnc, r⟩
  · exact absurd (List.eq_nil_of_length_eq_zero hz) hne
  · cases hv; exact hnc
theorem row_cut {w : World} {g off : Nat} {l m : List Ru} (h : RowAt w g off ((l ++ m).flatMap ruC)) : RowAt w g off (l.flatMap ruC) := fun j x hx => h j x (by
  rw [List.flatMap_append, List.getElem?_append_left (by
    rcases Nat.lt_or_ge j (l.flatMap ruC).length with h | h
    · exact h
    · rw [List.getElem?_eq_none h] at hx; cases hx)]
  exact hx)
/-- A manifest is stored into a block, cell by cell. -/
def set7 (W : World) (b : Nat) (y0 y1 y2 y3 y4 y5 y6 : Value) : World :=
  ((((((W.setCell ⟨b, 0, none⟩ y0).setCell ⟨b, 1, none⟩ y1).setCell ⟨b, 2, none⟩ y2).setCell ⟨b, 3, none⟩ y3).setCell ⟨b, 4, none⟩ y4).setCell ⟨b, 5, none⟩ y5).setCell ⟨b, 6, none⟩ y6
theorem set7_heap (W : World) (b : Nat) (x0 x1 x2 x3 x4 x5 x6 y0 y1 y2 y3 y4 y5 y6 : Value) (t : TypeId) (h : W.heap[b]? = some (.cells #[x0, x1, x2, x3, x4, x5, x6] t (0, 0))) :
    (set7 W b y0 y1 y2 y3 y4 y5 y6).heap[b]? = some (.cells #[y0, y1, y2, y3, y4, y5, y6] t (0, 0)) := by
  obtain ⟨W0, e0⟩ : ∃ W', W' = W.setCell ⟨b, 0, none⟩ y0 := ⟨_, rfl⟩
  have h0 : W0.heap[b]? = some (.cells #[y0, x1, x2, x3, x4, x5, x6] t (0, 0)) := by rw [e0, heap_setCell_same W b 0 _ _ y0 h]; rfl
  obtain ⟨W1, e1⟩ : ∃ W', W' = W0.setCell ⟨b, 1, none⟩ y1 := ⟨_, rfl⟩
  have h1 : W1.heap[b]? = some (.cells #[y0, y1, x2, x3, x4, x5, x6] t (0, 0)) := by rw [e1, heap_setCell_same W0 b 1 _ _ y1 h0]; rfl
  obtain ⟨W2, e2⟩ : ∃ W', W' = W1.setCell ⟨b, 2, none⟩ y2 := ⟨_, rfl⟩
  have h2 : W2.heap[b]? = some (.cells #[y0, y1, y2, x3, x4, x5, x6] t (0, 0)) := by rw [e2, heap_setCell_same W1 b 2 _ _ y2 h1]; rfl
  obtain ⟨W3, e3⟩ : ∃ W', W' = W2.setCell ⟨b, 3, none⟩ y3 := ⟨_, rfl⟩
  have h3 : W3.heap[b]? = some (.cells #[y0, y1, y2, y3, x4, x5, x6] t (0, 0)) := by rw [e3, heap_setCell_same W2 b 3 _ _ y3 h2]; rfl
  obtain ⟨W4, e4⟩ : ∃ W', W' = W3.setCell ⟨b, 4, none⟩ y4 := ⟨_, rfl⟩
  have h4 : W4.heap[b]? = some (.cells #[y0, y1, y2, y3, y4, x5, x6] t (0, 0)) := by rw [e4, heap_setCell_same W3 b 4 _ _ y4 h3]; rfl
  obtain ⟨W5, e5⟩ : ∃ W', W' = W4.setCell ⟨b, 5, none⟩ y5 := ⟨_, rfl⟩
  have h5 : W5.heap[b]? = some (.cells #[y0, y1, y2, y3, y4, y5, x6] t (0, 0)) := by rw [e5, heap_setCell_same W4 b 5 _ _ y5 h4]; rfl
  obtain ⟨W6, e6⟩ : ∃ W', W' = W5.setCell ⟨b, 6, none⟩ y6 := ⟨_, rfl⟩
  have h6 : W6.heap[b]? = some (.cells #[y0, y1, y2, y3, y4, y5, y6] t (0, 0)) := by rw [e6, heap_setCell_same W5 b 6 _ _ y6 h5]; rfl
  unfold set7
  rw [← e0, ← e1, ← e2, ← e3, ← e4, ← e5, ← e6]
  exact h6
theorem set7_stay (W : World) (b : Nat) (y0 y1 y2 y3 y4 y5 y6 : Value) : Stay (fun k => k = b) W (set7 W b y0 y1 y2 y3 y4 y5 y6) :=
  ((((((((Stay.refl (fun k => k = b) W).setCell (fun _ => rfl) _).setCell (fun _ => rfl) _).setCell (fun _ => rfl) _).setCell (fun _ => rfl) _).setCell (fun _ => rfl) _).setCell (fun _ => rfl) _).setCell (fun _ => rfl) _)
set_option maxHeartbeats 8000000 in
set_option maxRecDepth 100000 in
theorem twin_any (m : Mf) (la : Option Addr) (c : Nat) (w : World) (hL : LAt w la m.rs) (hs : (m.rs.length + 1) * 32 ≤ 140737488355328) :
    Calls Tryd.prog 15 #[.agg (mfC m la c).toArray] w fun e w' => ∃ q cp, e = .returned (.agg (mfC m (some ⟨q, 0, none⟩) cp).toArray) ∧ Rw w' q cp (m.rs ++ [r7]) ∧ w.heap.size ≤ q ∧ Below w.heap.size w w' := by
  obtain ⟨wa, hwa⟩ : ∃ wa, wa = w.alloc (.cells (mfC m la c).toArray 26) := ⟨_, rfl⟩
  have ba : Below w.heap.size w wa := by rw [hwa]; exact (Below.refl _ w).alloc (Nat.le_refl _) _
  have sza : wa.heap.size = w.heap.size + 1 := by rw [hwa]; simp
  have SA : SAt wa w.heap.size (mfC m la c) := by rw [hwa]; exact SAt.new w _ _
  have hwa' : w.alloc (.cells (mfC m la c).toArray 26) = wa := hwa.symm
  obtain ⟨wb, hwb⟩ : ∃ wb, wb = wa.alloc (.cells #[.int .i64 0, .int .i64 0, .int .i64 0, .int .i64 0, .int .i64 0, .int .i64 0, .slice none 0 0] 26) := ⟨_, rfl⟩
  have bb : Below wa.heap.size wa wb := by rw [hwb]; exact (Below.refl _ wa).alloc (Nat.le_refl _) _
  have szb : wb.heap.size = w.heap.size + 2 := by rw [hwb]; simp [sza]
  have hwb' : wa.alloc (.cells #[.int .i64 0, .int .i64 0, .int .i64 0, .int .i64 0, .int .i64 0, .int .i64 0, .slice none 0 0] 26) = wb := hwb.symm
  have ZB : wb.heap[w.heap.size + 1]? = some (.cells #[.int .i64 0, .int .i64 0, .int .i64 0, .int .i64 0, .int .i64 0, .int .i64 0, .slice none 0 0] 26 (0, 0)) := by rw [hwb, ← sza]; exact heap_alloc_last wa _
  have SB := SA.lat bb
  have b0 := chain ba bb (Nat.le_refl _)
  have own0 : wb.ownsRow 0 43 4 (.slice none 0 0) ([] : List Ru).length (([] : List Ru).flatMap ruC) := World.ownsRow_nil _ _ _ _
  obtain ⟨v1, w1, hr1, own1, st1, loc1⟩ := ru_app wb [] m.rs (.slice none 0 0) own0 la c (hL.below b0).at' (by simp; omega)
  rw [List.nil_append] at own1
  have b1 : Below wb.heap.size wb w1 := st1.toBelow (B := wb.heap.size) (fun k hk h => by cases h) (Nat.le_refl _)
  obtain ⟨w1b, hw1b⟩ : ∃ w1b, w1b = w1.alloc (.cells (ruC r7).toArray 43) := ⟨_, rfl⟩
  have b1b : Below w1.heap.size w1 w1b := by rw [hw1b]; exact (Below.refl _ w1).alloc (Nat.le_refl _) _
  have hw1b' : w1.alloc (.cells (ruC r7).toArray 43) = w1b := hw1b.symm
  have RI : RowAt w1b w1.heap.size 0 (([r7] : List Ru).flatMap ruC) := fun j x hx => by
    rw [hw1b, Nat.zero_add]; exact SAt.new w1 (ruC r7) _ j x (by simpa using hx)
  have own1b := row_kept (F := fun _ => False) own1 (.below b1b) (fun _ _ h => h)
  obtain ⟨v2, w2, hr2, own2, st2, loc2⟩ := ru_app w1b m.rs [r7] v1 own1b (some ⟨w1.heap.size, 0, none⟩) 1 (fun _ => ⟨_, _, rfl, RI⟩) (by simpa using hs)
  have l1 : ∀ k, v1.ownBlock = some k → w.heap.size + 2 ≤ k := fun k hk => by
    rcases loc1 k hk with h | h
    · cases h
    · omega
  have l2 : ∀ k, v2.ownBlock = some k → w.heap.size + 2 ≤ k := fun k hk => by
    rcases loc2 k hk with h | h
    · exact l1 k h
    · have := b1.size; have := b1b.size; omega
  obtain ⟨q, cp, rfl, hq⟩ : ∃ q cp, v2 = .slice (some ⟨q, 0, none⟩) (m.rs ++ [r7]).length cp ∧ (m.rs ++ [r7]).length ≤ cp := by
    rcases own2.2 with ⟨_, hz⟩ | ⟨g, cap, cur, hv, _, _, hnc, _⟩
    · simp at hz
    · exact ⟨g, cap, hv, hnc⟩
  have hq2 : w.heap.size + 2 ≤ q := l2 q rfl
  have hln : (m.rs ++ [r7]).length = m.rs.length + 1 := by simp
  have S1 := (SB.lat b1).lat b1b
  have S2 := S1.stay st2 (fun h => by have := l1 _ h; omega)
  have Z2 : w2.heap[w.heap.size + 1]? = some (.cells #[.int .i64 0, .int .i64 0, .int .i64 0, .int .i64 0, .int .i64 0, .int .i64 0, .slice none 0 0] 26 (0, 0)) := by
    have y1 : w1.heap[w.heap.size + 1]? = _ := (b1.block (w.heap.size + 1) (by omega)).trans ZB
    have y2 : w1b.heap[w.heap.size + 1]? = _ := (b1b.block (w.heap.size + 1) (by have := b1.size; omega)).trans y1
    exact (st2.block (w.heap.size + 1) (by have := b1.size; have := b1b.size; omega) (fun h => by have := l1 _ h; omega)).trans y2
  have b2 : Below w.heap.size w w2 := (chain (chain b0 b1 (Nat.le_refl _)) b1b (Nat.le_refl _)).trans (st2.toBelow (B := w.heap.size) (fun k hk h => by have := l1 k h; omega) (by have := b0.size; have := b1.size; have := b1b.size; omega))
  have sz2 : w.heap.size + 2 ≤ w2.heap.size := by have := b1.size; have := b1b.size; have := st2.size; omega
  have a6 := SB 6 _ rfl
  have d0 := S2 0 _ rfl
  have d1 := S2 1 _ rfl
  have d2 := S2 2 _ rfl
  have d3 := S2 3 _ rfl
  have d4 := S2 4 _ rfl
  have d5 := S2 5 _ rfl
  have d6 := S2 6 _ rfl
  obtain ⟨w3, hw3⟩ : ∃ w3, w3 = w2.alloc (.cells (mfC m la c).toArray 26) := ⟨_, rfl⟩
  have b3 : Below w2.heap.size w2 w3 := by rw [hw3]; exact (Below.refl _ w2).alloc (Nat.le_refl _) _
  have H3 : w3.heap[w2.heap.size]? = some (.cells (mfC m la c).toArray 26 (0, 0)) := by rw [hw3]; exact heap_alloc_last w2 _
  have e6 := cell_lat b3 d6
  obtain ⟨w4, hw4⟩ : ∃ w4, w4 = w3.setCell ⟨w2.heap.size, 6, none⟩ (.slice (some ⟨q, 0, none⟩) m.rs.length cp) := ⟨_, rfl⟩
  have H4 : w4.heap[w2.heap.size]? = some (.cells (mfC m (some ⟨q, 0, none⟩) cp).toArray 26 (0, 0)) := by rw [hw4, heap_setCell_same w3 w2.heap.size 6 _ _ _ H3]; rfl
  have b4 : Below w2.heap.size w2 w4 := by rw [hw4]; exact b3.setCell (p := ⟨w2.heap.size, 6, none⟩) (Nat.le_refl _) _
  have Z4 : w4.heap[w.heap.size + 1]? = some (.cells #[.int .i64 0, .int .i64 0, .int .i64 0, .int .i64 0, .int .i64 0, .int .i64 0, .slice none 0 0] 26 (0, 0)) := (b4.block (w.heap.size + 1) (by omega)).trans Z2
  have f6 : w3.cell? ⟨w2.heap.size, 6, none⟩ = some (.slice la m.rs.length c) := by simp [World.cell?, H3, mfC]
  have g6 : w3.frozen? ⟨w2.heap.size, 6, none⟩ = false := by simp [World.frozen?, H3]
  have k0 : w4.cell? ⟨w2.heap.size, 0, none⟩ = some (.int .i64 m.w) := by simp [World.cell?, H4, mfC]
  have k1 : w4.cell? ⟨w2.heap.size, 1, none⟩ = some (.int .i64 m.ch) := by simp [World.cell?, H4, mfC]
  have k2 : w4.cell? ⟨w2.heap.size, 2, none⟩ = some (.int .i64 m.md) := by simp [World.cell?, H4, mfC]
  have k3 : w4.cell? ⟨w2.heap.size, 3, none⟩ = some (.int .i64 m.seq) := by simp [World.cell?, H4, mfC]
  have k4 : w4.cell? ⟨w2.heap.size, 4, none⟩ = some (.int .i64 m.nx) := by simp [World.cell?, H4, mfC]
  have k5 : w4.cell? ⟨w2.heap.size, 5, none⟩ = some (.int .i64 m.jn) := by simp [World.cell?, H4, mfC]
  have k6 : w4.cell? ⟨w2.heap.size, 6, none⟩ = some (.slice (some ⟨q, 0, none⟩) m.rs.length cp) := by simp [World.cell?, H4, mfC]
  have z0 : w4.cell? ⟨w.heap.size + 1, 0, none⟩ = some (.int .i64 0) := by simp [World.cell?, Z4]
  have z1 : w4.cell? ⟨w.heap.size + 1, 1, none⟩ = some (.int .i64 0) := by simp [World.cell?, Z4]
  have z2 : w4.cell? ⟨w.heap.size + 1, 2, none⟩ = some (.int .i64 0) := by simp [World.cell?, Z4]
  have z3 : w4.cell? ⟨w.heap.size + 1, 3, none⟩ = some (.int .i64 0) := by simp [World.cell?, Z4]
  have z4 : w4.cell? ⟨w.heap.size + 1, 4, none⟩ = some (.int .i64 0) := by simp [World.cell?, Z4]
  have z5 : w4.cell? ⟨w.heap.size + 1, 5, none⟩ = some (.int .i64 0) := by simp [World.cell?, Z4]
  have z6 : w4.cell? ⟨w.heap.size + 1, 6, none⟩ = some (.slice none 0 0) := by simp [World.cell?, Z4]
  have zf : ∀ j, w4.frozen? ⟨w.heap.size + 1, j, none⟩ = false := fun j => by simp [World.frozen?, Z4]
  have hw3' : w2.alloc (.cells (mfC m la c).toArray 26) = w3 := hw3.symm
  have hw4' : w3.setCell ⟨w2.heap.size, 6, none⟩ (.slice (some ⟨q, 0, none⟩) m.rs.length cp) = w4 := hw4.symm
  rw [show ([r7] : List Ru).length = 1 from rfl] at hr2
  rw [hln] at hr2 hq
  have HO : Hid (Rw w2 q cp (m.rs ++ [r7])) := own2
  clear hw3 hw4 H3 H4 Z2 ZB S2 hwa hwb hw1b SA SB S1 own0 own1 own1b own2 RI st1 st2 loc1 loc2 b1 b1b l1 l2 hL
  simp only [mfC, ruC, r7] at hwa' hwb' hw1b' hw3' hr1 ⊢
  have t1 : True := trivial
  go_enter Tryd.func15, Tryd.ntmps15
  go_wp2_with first
    | (at_builtin; have _t := t1; refine wpList_append_eq rfl _ _ _ _ rfl _ _ _ _ rfl rfl hr1 ?_; clear t1)
    | (at_builtin; refine wpList_append_eq rfl _ _ _ _ rfl _ _ _ _ rfl rfl hr2 ?_)
  obtain ⟨W5, hW5⟩ : ∃ W5, W5 = set7 w4 (w.heap.size + 1) (.int .i64 m.w) (.int .i64 m.ch) (.int .i64 m.md) (.int .i64 m.seq) (.int .i64 m.nx) (.int .i64 m.jn) (.slice (some ⟨q, 0, none⟩) m.rs.length cp) := ⟨_, rfl⟩
  have H5 := set7_heap w4 (w.heap.size + 1) _ _ _ _ _ _ _ (.int .i64 m.w) (.int .i64 m.ch) (.int .i64 m.md) (.int .i64 m.seq) (.int .i64 m.nx) (.int .i64 m.jn) (.slice (some ⟨q, 0, none⟩) m.rs.length cp) _ Z4
  have st5 := set7_stay w4 (w.heap.size + 1) (.int .i64 m.w) (.int .i64 m.ch) (.int .i64 m.md) (.int .i64 m.seq) (.int .i64 m.nx) (.int .i64 m.jn) (.slice (some ⟨q, 0, none⟩) m.rs.length cp)
  rw [← hW5] at H5 st5
  have hW5' := hW5
  unfold set7 at hW5'
  rw [← hW5']
  have o0 : W5.cell? ⟨w.heap.size + 1, 0, none⟩ = some (.int .i64 m.w) := by simp [World.cell?, H5]
  have o1 : W5.cell? ⟨w.heap.size + 1, 1, none⟩ = some (.int .i64 m.ch) := by simp [World.cell?, H5]
  have o2 : W5.cell? ⟨w.heap.size + 1, 2, none⟩ = some (.int .i64 m.md) := by simp [World.cell?, H5]
  have o3 : W5.cell? ⟨w.heap.size + 1, 3, none⟩ = some (.int .i64 m.seq) := by simp [World.cell?, H5]
  have o4 : W5.cell? ⟨w.heap.size + 1, 4, none⟩ = some (.int .i64 m.nx) := by simp [World.cell?, H5]
  have o5 : W5.cell? ⟨w.heap.size + 1, 5, none⟩ = some (.int .i64 m.jn) := by simp [World.cell?, H5]
  have o6 : W5.cell? ⟨w.heap.size + 1, 6, none⟩ = some (.slice (some ⟨q, 0, none⟩) m.rs.length cp) := by simp [World.cell?, H5]
  refine bodyPost_ret (v := .agg #[.int .i64 m.w, .int .i64 m.ch, .int .i64 m.md, .int .i64 m.seq, .int .i64 m.nx, .int .i64 m.jn, .slice (some ⟨q, 0, none⟩) m.rs.length cp]) (by simp [results, Tryd.results15, go_sem, o0, o1, o2, o3, o4, o5, o6]; try rfl) rfl ?_
  have qlt : q < w2.heap.size := row_lt HO.out rfl
  refine ⟨q, cp, rfl, ?_, by omega, ?_⟩
  · have x4 : Rw w4 q cp (m.rs ++ [r7]) := row_kept (F := fun _ => False) HO.out (.below b4) (fun _ _ h => h)
    exact row_kept x4 st5 (fun k hk h => by (cases hk; have h' : q = w.heap.size + 1 := h; omega))
  · have x4 : Below w.heap.size w w4 := chain b2 b4 (Nat.le_refl _)
    exact x4.trans (st5.toBelow (B := w.heap.size) (fun k hk h => by (have h' : k = w.heap.size + 1 := h; omega)) x4.size)
end Go.Proofs.YtibjneoiombbfaaDoor
