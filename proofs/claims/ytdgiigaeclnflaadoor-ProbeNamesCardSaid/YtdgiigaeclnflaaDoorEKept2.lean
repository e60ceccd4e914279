/-
  DERIVED. What is kept: has, last, add.
-/
import Derived.Test.YtdgiigaeclnflaaDoorEKept
set_option linter.unusedVariables false
set_option linter.unusedSimpArgs false
namespace Go.Proofs.YtdgiigaeclnflaaDoor
open Classical
open Go.RowKit
abbrev Pk (p : Nat) : Value := .pointer (some ⟨p, 0, none⟩)
set_option maxRecDepth 100000 in
theorem has_any (kp : Nat) (X : List Ht) (h : Ht) (w : World) (hk : KK w kp X) (hw : HtW h) :
    Calls Tryd.prog 79 #[Pk kp, .agg (hC h).toArray] w fun r w' => r = .returned (.bool (decide (h ∈ X))) ∧ Below w.heap.size w w' := by
  obtain ⟨mb, v, g, xs, hK⟩ := hk
  have hd : decide (h ∈ xs) = decide (h ∈ X) := by simp [hK.perm.mem_iff]
  have bA : Below w.heap.size w (w.alloc (.cells (hC h).toArray 67)) := (Below.refl _ w).alloc (Nat.le_refl _) _
  obtain ⟨w1, hw1⟩ : ∃ w1, w1 = w.alloc (.cells (hC h).toArray 67) := ⟨_, rfl⟩
  rw [← hw1] at bA
  obtain ⟨-, -, q2, -⟩ := (hK.kp'.below bA).cells
  have hlook : ∀ W, Below w1.heap.size w1 W → (Instr.lookup 81 (.map (some mb)) (.agg #[.int .i64 h.d, .int .i64 h.i, .string h.c]) true).run Tryd.prog W = .ok (.tuple #[.agg #[], .bool (decide (h ∈ X))]) W := fun W b => by
    have := (((hK.below bA).below b).set).look hK.xfit hw
    rw [hd] at this; exact this
  have l1 := hlook w1.drew (b_drew _)
  have b2 : Below w1.heap.size w1 (w1.alloc (.cells #[] 142)) := (Below.refl _ w1).alloc (Nat.le_refl _) _
  have l2 := hlook (w1.alloc (.cells #[] 142)).drew (b2.drew)
  have z0 : w1.cell? ⟨w.heap.size, 0, none⟩ = some (.int .i64 h.d) := by rw [hw1]; exact SAt.new w (hC h) 67 0 _ rfl
  have z1 : w1.cell? ⟨w.heap.size, 1, none⟩ = some (.int .i64 h.i) := by rw [hw1]; exact SAt.new w (hC h) 67 1 _ rfl
  have z2 : w1.cell? ⟨w.heap.size, 2, none⟩ = some (.string h.c) := by rw [hw1]; exact SAt.new w (hC h) 67 2 _ rfl
  have y0 := cell_lat b2 z0
  have y1 := cell_lat b2 z1
  have y2 := cell_lat b2 z2
  have q3 := cell_lat b2 q2
  have hw' : w.alloc (.cells #[.int .i64 h.d, .int .i64 h.i, .string h.c] 67) = w1 := hw1.symm
  have HF : Hid (Below w.heap.size w (w1.alloc (.cells #[] 142)).drew) := bA.trans (b2.drew.mono bA.size)
  clear hlook bA hd hK hw1 b2
  simp only [hC]
  go_enter Tryd.func79, Tryd.ntmps79
  go_wp2
  go_region
  all_goals
    go_wp2
    go_ret
    exact ⟨rfl, HF.out⟩
theorem KH.first {w : World} {kp mb : Nat} {v : Value} {g : Int} {xs X : List Ht} (hK : KH w kp mb v g xs X) (hn : X ≠ []) : ∃ x, xs[0]? = some x ∧ X = X.dropLast ++ [x] := by
  have hl := hK.len
  have h0 : 0 < xs.length := by rw [hl]; exact List.length_pos_iff.2 hn
  refine ⟨xs[0], List.getElem?_eq_getElem h0, srt_last hK.srt hK.perm (List.getElem_mem h0) (fun y hy => ?_)⟩
  obtain ⟨j, hj, rfl⟩ := List.getElem_of_mem hy
  have := heap_least ordG hK.heap j hj
  rw [ltAt_eq gtH xs j 0 hj h0] at this
  unfold gtH at this
  simp at this
  exact this
theorem last_eq {X : List Ht} {x y : Ht} (h1 : X = X.dropLast ++ [x]) (h2 : X = X.dropLast ++ [y]) : x = y := by
  have := h1.symm.trans h2
  simpa using this
/-- A box of a hit, written. -/
theorem fin3 {W : World} {r : Nat} {cs : Array Value} (h : W.heap[r]? = some (.cells cs 67 (0, 0))) (hl : cs.size = 3) (y0 y1 y2 : Value) : ∃ W5, ((W.setCell ⟨r, 0, none⟩ y0).setCell ⟨r, 1, none⟩ y1).setCell ⟨r, 2, none⟩ y2 = W5 ∧ Stay (fun k => k = r) W W5 ∧ W5.heap[r]? = some (.cells #[y0, y1, y2] 67 (0, 0)) ∧ W5.cell? ⟨r, 0, none⟩ = some y0 ∧ W5.cell? ⟨r, 1, none⟩ = some y1 ∧ W5.cell? ⟨r, 2, none⟩ = some y2 := by
  obtain ⟨l⟩ := cs
  match l, hl with
  | [a, b, c], _ =>
    have H : (((W.setCell ⟨r, 0, none⟩ y0).setCell ⟨r, 1, none⟩ y1).setCell ⟨r, 2, none⟩ y2).heap[r]? = some (.cells #[y0, y1, y2] 67 (0, 0)) := by
      have h1 := heap_setCell_same W r 0 _ _ y0 h
      have h2 := heap_setCell_same _ r 1 _ _ y1 h1
      have h3 := heap_setCell_same _ r 2 _ _ y2 h2
      rw [h3]; rfl
    refine ⟨_, rfl, Stay.setCell (F := fun k => k = r) (Stay.setCell (F := fun k => k = r) (Stay.setCell (F := fun k => k = r) (.refl _ _) (p := ⟨r, 0, none⟩) (fun _ => rfl) _) (p := ⟨r, 1, none⟩) (fun _ => rfl) _) (p := ⟨r, 2, none⟩) (fun _ => rfl) _, H, ?_, ?_, ?_⟩ <;> simp [World.cell?, H]
set_option maxRecDepth 100000 in
theorem last_any (kp : Nat) (X : List Ht) (x : Ht) (w : World) (hk : KK w kp X) (hx : X = X.dropLast ++ [x]) :
    Calls Tryd.prog 24 #[Pk kp] w fun r w' => r = .returned (.agg (hC x).toArray) ∧ Below w.heap.size w w' := by
  obtain ⟨mb, v, g, xs, hK⟩ := hk
  have hne : X ≠ [] := fun e => by rw [e] at hx; simp at hx
  obtain ⟨y, hy, hy2⟩ := hK.first hne
  have hxy := last_eq hx hy2
  subst hxy
  have h0 : 0 < xs.length := by rw [hK.len]; exact List.length_pos_iff.2 hne
  have bA : Below w.heap.size w (w.alloc (.cells #[.int .i64 0, .int .i64 0, .string ⟨#[]⟩] 67)) := (Below.refl _ w).alloc (Nat.le_refl _) _
  have hb1 := heap_alloc_last w (.cells #[.int .i64 0, .int .i64 0, .string ⟨#[]⟩] 67)
  obtain ⟨w1, hw1⟩ : ∃ w1, w1 = w.alloc (.cells #[.int .i64 0, .int .i64 0, .string ⟨#[]⟩] 67) := ⟨_, rfl⟩
  rw [← hw1] at bA hb1
  obtain ⟨b, cap, hv, x0, x1, x2, -⟩ := HRow.at' (hK.below bA).row 0 h0
  rw [List.getElem?_eq_getElem h0] at hy
  replace hy := Option.some.inj hy
  rw [hy] at x0 x1 x2
  obtain ⟨-, q1, -⟩ := (hK.below bA).kp'.cells
  rw [hv] at q1
  obtain ⟨n, hn⟩ : ∃ n, n = xs.length := ⟨_, rfl⟩
  rw [← hn] at q1
  have i1 : (0 : Int) < (n : Int) := by omega
  simp only [Nat.zero_mul, Nat.zero_add] at x0 x1 x2
  simp only [hC]
  have z0 : w1.cell? ⟨w.heap.size, 0, none⟩ = some (.int .i64 0) := by rw [cell_of_row _ _ 0 _ _ (0, 0) hb1]; rfl
  have z1 : w1.cell? ⟨w.heap.size, 1, none⟩ = some (.int .i64 0) := by rw [cell_of_row _ _ 1 _ _ (0, 0) hb1]; rfl
  have z2 : w1.cell? ⟨w.heap.size, 2, none⟩ = some (.string ⟨#[]⟩) := by rw [cell_of_row _ _ 2 _ _ (0, 0) hb1]; rfl
  have zf : ∀ j, w1.frozen? ⟨w.heap.size, j, none⟩ = false := fun j => frozen_of_row _ _ _ _ _ hb1
  obtain ⟨W5, hW5, st5, -, o0, o1, o2⟩ := fin3 hb1 rfl (.int .i64 x.d) (.int .i64 x.i) (.string x.c)
  have HB : Hid (Below w.heap.size w W5) := bA.trans (st5.toBelow (B := w.heap.size) (fun k hk h => by (have h' : k = w.heap.size := h; omega)) bA.size)
  have hw' := hw1.symm
  clear hv hy2 hx hne hK hn hy h0 hw1 bA hb1 st5
  go_enter Tryd.func24, Tryd.ntmps24
  go_wp2
  refine bodyPost_ret (v := .agg #[.int .i64 x.d, .int .i64 x.i, .string x.c]) (by simp [results, Tryd.results24, go_sem, o0, o1, o2]; try rfl) rfl ?_
  exact ⟨rfl, HB.out⟩
theorem clone_any (s : ByteArray) (w : World) (hs : s.size ≤ 281474976710656) : Calls Tryd.prog 85 #[.string s] w fun r w' => r = .returned (.string s) ∧ Below w.heap.size w w' := by
  have k := fun W => Tryd.stringslite_Clone s W hs
  go_enter Tryd.func85, Tryd.ntmps85
  go_wp2_with (go_at_call 90; refine (k _).mono ?_; rintro r w' ⟨rfl, b⟩)
  go_ret
  exact ⟨rfl, b⟩
theorem FrK.of_stay {F : Nat → Prop} {A B : World} {kp mb : Nat} {v : Value} {g g' : Int} (hA : Kp A kp v mb g) (hB : Kp B kp v mb g') (s : Stay F A B) (hF : ∀ k, k < A.heap.size → F k → Ft A kp k) : FrK kp A B :=
  ⟨s.mono hF, fun k hk => .inl ((hA.ft k).2 ((hB.ft k).1 hk))⟩
/-- Behind a put and a Push. -/
theorem add_post {w w1 w4 w5 : World} {kp mb : Nat} {v : Value} {g : Int} {xs X : List Ht} {h : Ht} (hK : KH w1 kp mb v g xs X) (hh : HtW h) (hn : h ∉ X) (hl : X.length < LIM)
    (b : Below w.heap.size w w1) (hw : KK w kp X) (m4 : MS w4 mb (h :: xs)) (s4 : Stay (fun k => k = mb) w1 w4) (p5 : HM kp mb g (upL gtH (xs ++ [h]) xs.length) w5) (f5 : FrM kp w4 w5) : KK w5 kp (ins h X) ∧ FrK kp w w5 := by
  obtain ⟨hp, hhp⟩ := push_pure xs h hK.heap
  have ha := hK.set.apart hK.kp' hK.row
  have hk4 : Kp w4 kp v mb g := hK.kp'.kept s4 (fun e => ha.1 e.symm)
  obtain ⟨v5, hk5, hr5, hl5⟩ := p5
  have hx : xs.Perm X := hK.perm
  have hm5 : MS w5 mb (h :: xs) := m4.block (f5.block mb m4.lt ha.1 (fun av e1 e2 => by
    rw [hk4.cells.2.1] at e1; cases e1; exact ha.2 e2))
  have hins : (ins h X).Perm (h :: X) := ins_perm hn
  refine ⟨⟨mb, v5, g, _, ⟨hk5, hr5, hm5.perm hp.symm, (hp.trans (hx.cons h)).trans hins.symm, hhp, fun x hx => ?_, ins_srt h X hK.srt, hK.g0, ?_, ?_⟩⟩, ?_⟩
  · rcases (ins_mem h x X).1 hx with rfl | hx
    · exact hh
    · exact hK.fit x hx
  · rw [hins.length_eq, List.length_cons]; have := hK.gl; omega
  · rw [hins.length_eq, List.length_cons]; omega
  · obtain ⟨mb0, v0, g0, xs0, hK0⟩ := hw
    refine (FrK.below hK0.kp' b).trans ((FrK.of_stay hK.kp' hk4 s4 (fun k _ e => (hK.kp'.ft k).2 (.inr (.inr e.symm)))).trans (f5.frk hk4 hk5))
set_option maxRecDepth 100000 in
theorem add_any (kp : Nat) (X : List Ht) (h : Ht) (w : World) (hk : KK w kp X) (hh : HtW h) (hn : h ∉ X) (hl : X.length < LIM) :
    Calls Tryd.prog 81 #[Pk kp, .agg (hC h).toArray] w fun r w' => r = .returned (.tuple #[]) ∧ KK w' kp (ins h X) ∧ FrK kp w w' := by
  have hk0 := Hid.mk hk
  obtain ⟨mb, v, g, xs, hK⟩ := hk
  have bA : Below w.heap.size w (w.alloc (.cells (hC h).toArray 67)) := (Below.refl _ w).alloc (Nat.le_refl _) _
  obtain ⟨w1, hw1⟩ : ∃ w1, w1 = w.alloc (.cells (hC h).toArray 67) := ⟨_, rfl⟩
  have hsz : w1.heap.size = w.heap.size + 1 := by rw [hw1]; simp
  rw [← hw1] at bA
  have z2 : w1.cell? ⟨w.heap.size, 2, none⟩ = some (.string h.c) := by rw [hw1]; exact SAt.new w (hC h) 67 2 _ rfl
  have hb1 : w1.heap[w.heap.size]? = some (.cells (hC h).toArray 67 (0, 0)) := by rw [hw1]; exact heap_alloc_last w _
  have hw' : w.alloc (.cells #[.int .i64 h.d, .int .i64 h.i, .string h.c] 67) = w1 := hw1.symm
  have hcl := fun W => clone_any h.c W (by have := hh.2.2; omega)
  have HK := Hid.mk hK
  have HB := Hid.mk (And.intro bA (And.intro hb1 hsz))
  clear hw1 hK bA hb1 hsz
  simp only [hC]
  go_enter Tryd.func81, Tryd.ntmps81
  go_wp2_with (go_at_call 85; refine (hcl _).mono ?_; clear hcl; rintro r w2 ⟨rfl, b2⟩; have y2 := cell_lat b2 z2; have yf : w2.frozen? ⟨w.heap.size, 2, none⟩ = false := frozen_of_row _ _ _ _ _ ((b2.block w.heap.size (by rw [HB.out.2.2]; omega)).trans HB.out.2.1))
  have b3 : Below w.heap.size w (w2.setCell ⟨w.heap.size, 2, none⟩ (.string h.c)) := (Stay.setCell (F := fun _ => False) (.below (HB.out.1.trans (b2.mono HB.out.1.size))) (p := ⟨w.heap.size, 2, none⟩) (fun e => absurd e (Nat.lt_irrefl _)) _).toBelow (fun _ _ h => h) (Nat.le_refl _)
  have hb3 : (w2.setCell ⟨w.heap.size, 2, none⟩ (.string h.c)).heap[w.heap.size]? = some (.cells (hC h).toArray 67 (0, 0)) := by
    rw [heap_setCell_same w2 w.heap.size 2 _ _ _ ((b2.block w.heap.size (by rw [HB.out.2.2]; omega)).trans HB.out.2.1)]; rfl
  obtain ⟨w3, hw3⟩ : ∃ w3, w3 = w2.setCell ⟨w.heap.size, 2, none⟩ (.string h.c) := ⟨_, rfl⟩
  rw [← hw3] at b3 hb3 ⊢
  have HK3 := Hid.mk (HK.out.below b3.drew)
  have u0 : w3.cell? ⟨w.heap.size, 0, none⟩ = some (.int .i64 h.d) := by rw [cell_of_row _ _ 0 _ _ (0, 0) hb3]; rfl
  have u1 : w3.cell? ⟨w.heap.size, 1, none⟩ = some (.int .i64 h.i) := by rw [cell_of_row _ _ 1 _ _ (0, 0) hb3]; rfl
  have u2 : w3.cell? ⟨w.heap.size, 2, none⟩ = some (.string h.c) := by rw [cell_of_row _ _ 2 _ _ (0, 0) hb3]; rfl
  have q2 : w3.cell? ⟨kp, 2, none⟩ = some (.map (some mb)) := HK3.out.kp'.cells.2.2.1
  obtain ⟨w4, hput, m4, s4⟩ := HK3.out.set.put HK3.out.xfit hh (fun e => hn (HK3.out.perm.mem_iff.1 e)) (by have := HK3.out.len; unfold LIM at hl; unfold maxLen; omega)
  have hb4 : w4.heap[w.heap.size]? = some (.cells (hC h).toArray 67 (0, 0)) := (s4.block w.heap.size (by exact (Array.getElem?_eq_some_iff.1 hb3).1) (fun e => by
    have := HK.out.set.lt; omega)).trans hb3
  have t0 : w4.cell? ⟨w.heap.size, 0, none⟩ = some (.int .i64 h.d) := by rw [cell_of_row _ _ 0 _ _ (0, 0) hb4]; rfl
  have t1 : w4.cell? ⟨w.heap.size, 1, none⟩ = some (.int .i64 h.i) := by rw [cell_of_row _ _ 1 _ _ (0, 0) hb4]; rfl
  have t2 : w4.cell? ⟨w.heap.size, 2, none⟩ = some (.string h.c) := by rw [cell_of_row _ _ 2 _ _ (0, 0) hb4]; rfl
  have ha := HK3.out.set.apart HK3.out.kp' HK3.out.row
  have hm4 : HM kp mb g xs w4 := by
    obtain ⟨v0, k0, r0, l0⟩ := HK3.out.hm
    exact ⟨v, HK3.out.kp'.kept s4 (fun e => ha.1 e.symm), row_kept HK3.out.row s4 (fun k hk e => ha.2 (e ▸ hk)), l0⟩
  have hpush := push_any (hops kp mb g) (hops2 kp mb g) xs h w4 hm4 (by rw [HK3.out.len]; exact hl)
  simp only [hI, hC] at hpush
  have HP : Hid (∀ w5, HM kp mb g (upL gtH (xs ++ [h]) xs.length) w5 → FrM kp w4 w5 → KK w5 kp (ins h X) ∧ FrK kp w w5) := fun w5 p5 f5 => add_post HK3.out hh hn hl b3.drew hk0.out m4 s4 p5 f5
  simp only [hC] at hput
  clear ha hm4 m4 s4 hb4 hb3 HK3 hw3 b3 b2 y2 yf HB HK z2
  go_region
  all_goals
    go_wp2_with (go_at_call 86; refine hpush.mono ?_; clear hpush; rintro r w5 ⟨rfl, p5, f5⟩)
    go_end0
    exact ⟨rfl, HP.out _ p5 f5⟩
end Go.Proofs.YtdgiigaeclnflaaDoor
