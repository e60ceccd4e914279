/-
  DERIVED. Merge, as the laws ask it; begun.
-/
import Derived.Test.YtchikfabfhjkgaaMDealt0
import Derived.Test.YtchikfabfhjkgaaMMerge0
set_option linter.unusedVariables false
set_option linter.unusedSimpArgs false
namespace Go.Proofs.Ytchikfabfhjkgaa
open Go.RowKit
/-- What Merge answers of lists that rise, with no place twice of one Seq. -/
def MgO (R : List (List En)) (bottom : Bool) (w : World) (r : Ending) (w' : World) : Prop := Below w.heap.size w w' ∧ ∃ out a c, Told R bottom out ∧ r = .returned (.tuple #[.slice a out.length c, .int .i64 0]) ∧ w'.ownsRow 0 23 5 (.slice a out.length c) out.length (out.flatMap enC)
theorem merge_told (R : List (List En)) (la : Option Addr) (lc : Nat) (bottom : Bool) (w : World) (h : LL w la R) (hk : R.length ≤ 1024) (hc : ∀ r ∈ R, ∀ e ∈ r, e.c.size ≤ 281474976710656) (hN : R.flatten.length ≤ 1000) (hup : ∀ r ∈ R, Up r) (hu : Uniq R.flatten) :
    Calls Try.prog 24 #[.slice la R.length lc, .bool bottom] w (MgO R bottom w) := by
  have hrs : ∀ l ∈ R, rises l = true := fun l hl => up_rises (hup l hl)
  have fin : ∀ r w', Below w.heap.size w w' → MOut R bottom w r w' → MgO R bottom w r w' := fun r w' b m => by
    rcases m.says hrs with ⟨-, out, v, k1, k2, k3, k4⟩ | ⟨k1, -⟩
    · obtain ⟨a, c, rfl, -⟩ := slice_form k3
      exact ⟨b, out, a, c, k1, k2, k3⟩
    · exact absurd hu k1
  by_cases hne : R = []
  · subst hne
    exact (merge_none la lc bottom w).mono fun r w' ⟨b, m⟩ => fin r w' b m
  · refine (merge_any R la lc bottom w h hk hc ?_ hne).mono fun r w' ⟨b, m⟩ => ?_
    · unfold totT
      rw [List.length_flatten] at hN
      simp
      omega
    · rcases m with ⟨⟨l, hl, e⟩, -⟩ | ⟨-, m⟩
      · rw [hrs l hl] at e; cases e
      · exact fin r w' b m
theorem merge_seq (R : List (List En)) (la : Option Addr) (lc : Nat) (bottom : Bool) (w : World) (h : LL w la R) (hk : R.length ≤ 1024) (hc : ∀ r ∈ R, ∀ e ∈ r, e.c.size ≤ 281474976710656) (hN : R.flatten.length ≤ 1000) (hup : ∀ r ∈ R, Up r) (hu : ¬ Uniq R.flatten) :
    Calls Try.prog 24 #[.slice la R.length lc, .bool bottom] w fun r w' => r = .returned (.tuple #[.slice none 0 0, .int .i64 51]) ∧ Below w.heap.size w w' := by
  have hrs : ∀ l ∈ R, rises l = true := fun l hl => up_rises (hup l hl)
  have hne : R ≠ [] := fun e => by subst e; exact hu List.Pairwise.nil
  refine (merge_any R la lc bottom w h hk hc ?_ hne).mono fun r w' ⟨b, m⟩ => ?_
  · unfold totT
    rw [List.length_flatten] at hN
    simp
    omega
  · rcases m with ⟨⟨l, hl, e⟩, -⟩ | ⟨-, m⟩
    · rw [hrs l hl] at e; cases e
    · rcases m.says hrs with ⟨k1, -⟩ | ⟨-, k⟩
      · exact absurd k1 hu
      · exact ⟨k, b⟩
theorem lat_new (W : World) (l : List En) : LAt (W.alloc (.cells (l.flatMap enC).toArray 23)) (some ⟨W.heap.size, 0, none⟩) l := ⟨fun _ => ⟨_, _, rfl, fun j x hx => by
  have h := new_cells W (l.flatMap enC) 23 j x hx
  have e1 : (⟨W.heap.size, 0, none⟩ : Addr).add j = ⟨W.heap.size, 0 + j, none⟩ := by unfold Addr.add; split <;> simp_all
  rw [e1] at h; exact h⟩⟩
/-- Two lists, written out. -/
theorem lists2 (W : World) (p q : List En) (hp : p.length ≤ 60) (hq : q.length ≤ 60) :
    LL (((W.alloc (.cells (p.flatMap enC).toArray 23)).alloc (.cells (q.flatMap enC).toArray 23)).alloc (.cells #[.slice (some ⟨W.heap.size, 0, none⟩) p.length p.length, .slice (some ⟨W.heap.size + 1, 0, none⟩) q.length q.length] 24)) (some ⟨W.heap.size + 2, 0, none⟩) [p, q] ∧
    Below W.heap.size W (((W.alloc (.cells (p.flatMap enC).toArray 23)).alloc (.cells (q.flatMap enC).toArray 23)).alloc (.cells #[.slice (some ⟨W.heap.size, 0, none⟩) p.length p.length, .slice (some ⟨W.heap.size + 1, 0, none⟩) q.length q.length] 24)) := by
  obtain ⟨W1, h1⟩ : ∃ W1, W1 = W.alloc (.cells (p.flatMap enC).toArray 23) := ⟨_, rfl⟩
  obtain ⟨W2, h2⟩ : ∃ W2, W2 = W1.alloc (.cells (q.flatMap enC).toArray 23) := ⟨_, rfl⟩
  obtain ⟨W3, h3⟩ : ∃ W3, W3 = W2.alloc (.cells #[.slice (some ⟨W.heap.size, 0, none⟩) p.length p.length, .slice (some ⟨W.heap.size + 1, 0, none⟩) q.length q.length] 24) := ⟨_, rfl⟩
  rw [← h1, ← h2, ← h3]
  have b1 : Below W.heap.size W W1 := by rw [h1]; exact (Below.refl _ W).alloc (Nat.le_refl _) _
  have b2 : Below W1.heap.size W1 W2 := by rw [h2]; exact (Below.refl _ W1).alloc (Nat.le_refl _) _
  have b3 : Below W2.heap.size W2 W3 := by rw [h3]; exact (Below.refl _ W2).alloc (Nat.le_refl _) _
  have s1 : W1.heap.size = W.heap.size + 1 := by rw [h1]; simp
  have s2 : W2.heap.size = W.heap.size + 2 := by rw [h2]; simp [s1]
  have l1 : LAt W1 (some ⟨W.heap.size, 0, none⟩) p := by rw [h1]; exact lat_new W p
  have l2 : LAt W2 (some ⟨W.heap.size + 1, 0, none⟩) q := by rw [h2, ← s1]; exact lat_new W1 q
  have c3 := fun j u hu => new_cells W2 [.slice (some ⟨W.heap.size, 0, none⟩) p.length p.length, .slice (some ⟨W.heap.size + 1, 0, none⟩) q.length q.length] 24 j u hu
  rw [← h3, s2] at c3
  have ad : ∀ j, (⟨W.heap.size + 2, 0, none⟩ : Addr).add j = ⟨W.heap.size + 2, 0 + j, none⟩ := fun j => by unfold Addr.add; split <;> simp_all
  refine ⟨⟨fun i r hr => ?_⟩, chain b1 (chain b2 b3 (Nat.le_refl _)) (Nat.le_refl _)⟩
  match i, hr with
  | 0, hr =>
    cases hr
    have := c3 0 _ rfl
    rw [ad] at this
    exact ⟨_, _, _, _, rfl, this, Nat.le_refl _, (l1.below b2).below b3, by omega⟩
  | 1, hr =>
    cases hr
    have := c3 1 _ rfl
    rw [ad] at this
    exact ⟨_, _, _, _, rfl, this, Nat.le_refl _, l2.below b3, by omega⟩
  | _ + 2, hr => simp at hr
def eA : En := ⟨1, ⟨#[97]⟩, 1, 1, false⟩
def eD : En := ⟨1, ⟨#[97]⟩, 1, 5, true⟩
def eB : En := ⟨2, ⟨#[97]⟩, 1, 2, false⟩
theorem told_of {R : List (List En)} {bottom : Bool} {out : List En} (up : Up out) (h1 : ∀ x ∈ out, Top x R.flatten ∧ (x.d && bottom) = false) (h2 : ∀ x ∈ R.flatten, (∀ f ∈ R.flatten, cpE f x = 0 → f.s ≤ x.s) → (x.d && bottom) = false → x ∈ out) : Told R bottom out :=
  ⟨up, fun x => ⟨h1 x, fun h => h2 x h.1.1 h.1.2 h.2⟩⟩
theorem cp_tab : cpE eA eA = 0 ∧ cpE eA eB = -1 ∧ cpE eA eD = 0 ∧ cpE eB eA = 1 ∧ cpE eB eB = 0 ∧ cpE eB eD = 1 ∧ cpE eD eA = 0 ∧ cpE eD eB = -1 ∧ cpE eD eD = 0 := by
  refine ⟨?_, ?_, ?_, ?_, ?_, ?_, ?_, ?_, ?_⟩ <;> rfl
theorem sd_tab : eA.s = 1 ∧ eD.s = 5 ∧ eB.s = 2 ∧ eA.d = false ∧ eD.d = true ∧ eB.d = false := ⟨rfl, rfl, rfl, rfl, rfl, rfl⟩
theorem told1 : Told [[eA, eB], [eD]] false [eD, eB] := by
  obtain ⟨h0, h1, h2, h3, h4, h5, h6, h7, h8⟩ := cp_tab
  obtain ⟨s0, s1, s2, d0, d1, d2⟩ := sd_tab
  refine told_of ?_ ?_ ?_
  · simp [Up, h7]
  · intro x hx
    simp only [List.mem_cons, List.not_mem_nil, or_false] at hx
    rcases hx with rfl | rfl
    · simp [Top, h2, h5, h8, s0, s1, s2]
    · simp [Top, h1, h4, h7, s0, s1, s2, d2]
  · intro x hx hm _
    simp only [List.flatten_cons, List.flatten_nil, List.append_nil, List.cons_append, List.nil_append, List.mem_cons, List.not_mem_nil, or_false] at hx
    rcases hx with rfl | rfl | rfl
    · have := hm eD (by simp) h6; simp [s0, s1] at this
    · simp
    · simp
theorem told2 : Told [[eD], [eA, eB]] true [eB] := by
  obtain ⟨h0, h1, h2, h3, h4, h5, h6, h7, h8⟩ := cp_tab
  obtain ⟨s0, s1, s2, d0, d1, d2⟩ := sd_tab
  refine told_of ?_ ?_ ?_
  · simp [Up]
  · intro x hx
    simp only [List.mem_cons, List.not_mem_nil, or_false] at hx
    subst hx
    simp [Top, h1, h4, h7, s0, s1, s2, d2]
  · intro x hx hm hd
    simp only [List.flatten_cons, List.flatten_nil, List.append_nil, List.cons_append, List.nil_append, List.mem_cons, List.not_mem_nil, or_false] at hx
    rcases hx with rfl | rfl | rfl
    · simp [d1] at hd
    · have := hm eD (by simp) h6; simp [s0, s1] at this
    · simp
theorem uniq1 : Uniq ([[eA, eB], [eD]] : List (List En)).flatten := by
  obtain ⟨h0, h1, h2, h3, h4, h5, h6, h7, h8⟩ := cp_tab
  obtain ⟨s0, s1, s2, d0, d1, d2⟩ := sd_tab
  simp [Uniq, h1, h2, h5, s0, s1]
theorem uniq2 : Uniq ([[eD], [eA, eB]] : List (List En)).flatten := by
  obtain ⟨h0, h1, h2, h3, h4, h5, h6, h7, h8⟩ := cp_tab
  obtain ⟨s0, s1, s2, d0, d1, d2⟩ := sd_tab
  simp [Uniq, h1, h6, h7, s0, s1]
set_option maxHeartbeats 4000000 in
set_option maxRecDepth 100000 in
theorem begun_any (w : World) : Calls Try.prog 21 #[] w fun r w' => r = .returned (.bool true) ∧ Below w.heap.size w w' := by
  obtain ⟨W0, hW0⟩ : ∃ W0, ((w.alloc (.cells (enC eA).toArray 23)).alloc (.cells (enC eD).toArray 23)).alloc (.cells (enC eB).toArray 23) = W0 := ⟨_, rfl⟩
  have bA : Below w.heap.size w W0 := by rw [← hW0]; exact (((Below.refl _ w).alloc (Nat.le_refl _) _).alloc (by simp) _).alloc (by simp; omega) _
  have sA : SAt W0 w.heap.size (enC eA) := by rw [← hW0]; exact ((SAt.new w _ _).alloc _).alloc _
  have sD : SAt W0 (w.heap.size + 1) (enC eD) := by
    rw [← hW0]
    have := (SAt.new (w.alloc (.cells (enC eA).toArray 23)) (enC eD) 23).alloc (.cells (enC eB).toArray 23)
    simpa using this
  have sB : SAt W0 (w.heap.size + 1 + 1) (enC eB) := by
    rw [← hW0]
    have := SAt.new ((w.alloc (.cells (enC eA).toArray 23)).alloc (.cells (enC eD).toArray 23)) (enC eB) 23
    simpa using this
  have boxes : ∀ W, Below W0.heap.size W0 W → (∀ j v, (enC eA)[j]? = some v → W.cell? ⟨w.heap.size, j, none⟩ = some v) ∧ (∀ j v, (enC eD)[j]? = some v → W.cell? ⟨w.heap.size + 1, j, none⟩ = some v) ∧ ∀ j v, (enC eB)[j]? = some v → W.cell? ⟨w.heap.size + 1 + 1, j, none⟩ = some v := fun W b => ⟨fun j v h => cell_lat b (sA j v h), fun j v h => cell_lat b (sD j v h), fun j v h => cell_lat b (sB j v h)⟩
  have tiny : ∀ r ∈ ([[eA, eB], [eD]] : List (List En)), ∀ e ∈ r, e.c.size ≤ 281474976710656 := by
    intro r hr e he
    simp only [List.mem_cons, List.not_mem_nil, or_false] at hr
    rcases hr with rfl | rfl <;> simp only [List.mem_cons, List.not_mem_nil, or_false] at he
    · rcases he with rfl | rfl <;> decide
    · subst he; decide
  have ups : ∀ r ∈ ([[eA, eB], [eD]] : List (List En)), Up r := by
    intro r hr
    simp only [List.mem_cons, List.not_mem_nil, or_false] at hr
    rcases hr with rfl | rfl
    · simp [Up, cp_tab.2.1]
    · simp [Up]
  have hm1 := merge_told [[eA, eB], [eD]] _ 2 false _ (lists2 W0 [eA, eB] [eD] (by decide) (by decide)).1 (by decide) tiny (by decide) ups uniq1
  have hm2 := fun W => merge_told [[eD], [eA, eB]] _ 2 true _ (lists2 W [eD] [eA, eB] (by decide) (by decide)).1 (by decide) (fun r hr => tiny r (by simpa [or_comm] using hr)) (by decide) (fun r hr => ups r (by simpa [or_comm] using hr)) uniq2
  have H1 := Hid.mk (lists2 W0 [eA, eB] [eD] (by decide) (by decide)).2
  have H2 := Hid.mk (fun W => (lists2 W [eD] [eA, eB] (by decide) (by decide)).2)
  have HB := Hid.mk (And.intro bA boxes)
  have hsz : w.heap.size + 1 + 1 + 1 = W0.heap.size := by rw [← hW0]; simp
  clear sA sD sB bA boxes tiny ups
  simp only [enC, eA, eB, eD, List.flatMap_cons, List.flatMap_nil, List.append_nil, List.cons_append, List.nil_append, List.length_cons, List.length_nil, Nat.zero_add, Nat.reduceAdd] at hW0 hm1 hm2
  have HW0 := Hid.mk (And.intro hW0 hsz)
  clear hW0 hsz
  go_enter Try.func21, Try.ntmps21
  go_wp2_with fail
  rw [HW0.out.1, HW0.out.2]
  refine hm1.mono ?_
  clear hm1
  rintro r w2 ⟨b2, out, la, c, ht, rfl, ho⟩
  have hout := ht.one told1 (fun _ => Iff.rfl)
  subst hout
  have bb2 : Below W0.heap.size W0 w2 := chain H1.out b2 (Nat.le_refl _)
  obtain ⟨la', c', e1, -, hL⟩ := own_lat ho
  cases e1
  obtain ⟨a0, d0, b0⟩ := HB.out.2 w2 bb2
  have x0 := a0 0 _ rfl
  have x1 := a0 1 _ rfl
  have x2 := a0 2 _ rfl
  have x3 := a0 3 _ rfl
  have x4 := a0 4 _ rfl
  have y0 := d0 0 _ rfl
  have y1 := d0 1 _ rfl
  have y2 := d0 2 _ rfl
  have y3 := d0 3 _ rfl
  have y4 := d0 4 _ rfl
  have z0 := b0 0 _ rfl
  have z1 := b0 1 _ rfl
  have z2 := b0 2 _ rfl
  have z3 := b0 3 _ rfl
  have z4 := b0 4 _ rfl
  have K2 := Hid.mk (And.intro bb2 hL)
  clear ht ho b2 bb2 hL a0 d0 b0
  have al : ∀ o, Below w2.heap.size w2 (w2.alloc o) := fun o => (Below.refl _ w2).alloc (Nat.le_refl _) o
  have x0a := fun o => cell_lat (al o) x0
  have x1a := fun o => cell_lat (al o) x1
  have x2a := fun o => cell_lat (al o) x2
  have x3a := fun o => cell_lat (al o) x3
  have x4a := fun o => cell_lat (al o) x4
  have z0a := fun o => cell_lat (al o) z0
  have z1a := fun o => cell_lat (al o) z1
  have z2a := fun o => cell_lat (al o) z2
  have z3a := fun o => cell_lat (al o) z3
  have z4a := fun o => cell_lat (al o) z4
  clear al
  simp only [eA, eB, eD] at x0 x1 x2 x3 x4 y0 y1 y2 y3 y4 z0 z1 z2 z3 z4 x0a x1a x2a x3a x4a z0a z1a z2a z3a z4a
  simp only [List.length_cons, List.length_nil, Nat.zero_add, Nat.reduceAdd]
  go_wp2_with fail
  refine (hm2 w2).mono ?_
  clear hm2
  rintro r w3 ⟨b3, out, lb, d, ht, rfl, ho⟩
  have hout := ht.one told2 (fun _ => Iff.rfl)
  subst hout
  have bb3 : Below w2.heap.size w2 w3 := chain (H2.out w2) b3 (Nat.le_refl _)
  obtain ⟨lb', d', e1, -, hM⟩ := own_lat ho
  cases e1
  have K3 := Hid.mk (And.intro (chain K2.out.1 bb3 (Nat.le_refl _)) (And.intro (K2.out.2.below bb3) hM))
  clear x0a x1a x2a x3a x4a z0a z1a z2a z3a z4a
  clear ht ho b3 bb3 hM x0 x1 x2 x3 x4 y0 y1 y2 y3 y4 z0 z1 z2 z3 z4
  obtain ⟨a0, d0, b0⟩ := HB.out.2 w3 K3.out.1
  have y0 := d0 0 _ rfl
  have y1 := d0 1 _ rfl
  have y2 := d0 2 _ rfl
  have y3 := d0 3 _ rfl
  have y4 := d0 4 _ rfl
  have z0 := b0 0 _ rfl
  have z1 := b0 1 _ rfl
  have z2 := b0 2 _ rfl
  have z3 := b0 3 _ rfl
  have z4 := b0 4 _ rfl
  have hs1 := same_any [eD, eB] la (some ⟨w3.heap.size, 0, none⟩) c 2 (w3.alloc (.cells ([eD, eB].flatMap enC).toArray 23)) (K3.out.2.1.below ((Below.refl _ w3).alloc (Nat.le_refl _) _)) (lat_new w3 [eD, eB]) (by decide)
  simp only [enC, eB, eD, List.flatMap_cons, List.flatMap_nil, List.append_nil, List.cons_append, List.nil_append, List.length_cons, List.length_nil, Nat.zero_add, Nat.reduceAdd] at y0 y1 y2 y3 y4 z0 z1 z2 z3 z4 hs1
  simp only [List.length_cons, List.length_nil, Nat.zero_add, Nat.reduceAdd]
  clear a0 d0 b0
  go_wp2_with fail
  refine hs1.mono ?_
  clear hs1
  rintro r w4 ⟨rfl, dr4⟩
  have b4 : Below w3.heap.size w3 w4 := chain ((Below.refl _ w3).alloc (Nat.le_refl _) _) (dr4.below _) (Nat.le_refl _)
  have K4 := Hid.mk (And.intro (chain K3.out.1 b4 (Nat.le_refl _)) (K3.out.2.2.below b4))
  clear b4 dr4 y0 y1 y2 y3 y4 z0 z1 z2 z3 z4 K3
  obtain ⟨a0, d0, b0⟩ := HB.out.2 w4 K4.out.1
  have z0 := b0 0 _ rfl
  have z1 := b0 1 _ rfl
  have z2 := b0 2 _ rfl
  have z3 := b0 3 _ rfl
  have z4 := b0 4 _ rfl
  have hs1 := same_any [eB] lb (some ⟨w4.heap.size, 0, none⟩) d 1 (w4.alloc (.cells ([eB].flatMap enC).toArray 23)) (K4.out.2.below ((Below.refl _ w4).alloc (Nat.le_refl _) _)) (lat_new w4 [eB]) (by decide)
  simp only [enC, eB, eD, List.flatMap_cons, List.flatMap_nil, List.append_nil, List.cons_append, List.nil_append, List.length_cons, List.length_nil, Nat.zero_add, Nat.reduceAdd] at z0 z1 z2 z3 z4 hs1
  clear a0 d0 b0
  go_wp2_with fail
  refine hs1.mono ?_
  clear hs1 z0 z1 z2 z3 z4
  rintro r w5 ⟨rfl, dr5⟩
  have b5 : Below w4.heap.size w4 w5 := chain ((Below.refl _ w4).alloc (Nat.le_refl _) _) (dr5.below _) (Nat.le_refl _)
  have K5 := Hid.mk (chain HB.out.1 (chain K4.out.1 b5 (Nat.le_refl _)) (Nat.le_refl _))
  clear b5 dr5
  go_wp2
  go_ret
  exact ⟨rfl, K5.out⟩
end Go.Proofs.Ytchikfabfhjkgaa
