/-
  DERIVED. How many of the wanted hits were found: the program's and the document's.
-/
import Derived.Test.YtecodnilbojodaaYTwin
set_option linter.unusedVariables false
set_option linter.unusedSimpArgs false
namespace Go.Proofs.Ytecodnilbojodaa
open Go.RowKit
/-- Which numbers the found ones have. -/
def idsF (F : List Ht) : List Int := F.map Ht.i
/-- How many of these were found. -/
def cnF (F M : List Ht) : Nat := (M.filter fun h => decide (h.i ∈ idsF F)).length
theorem cnF_le (F M : List Ht) : cnF F M ≤ M.length := List.length_filter_le _ _
theorem cnF_step (F M : List Ht) (i : Nat) (h : i < M.length) : cnF F (M.take (i + 1)) = cnF F (M.take i) + (if M[i].i ∈ idsF F then 1 else 0) := by
  unfold cnF
  rw [List.take_succ_eq_append_getElem h, List.filter_append, List.length_append]
  congr 1
  by_cases hm : M[i].i ∈ idsF F
  · simp [hm]
  · simp [hm]
/-- Numbers that an int holds. -/
def IdW (F : List Ht) : Prop := ∀ h ∈ F, I64 h.i
theorem ids_take (F : List Ht) (i : Nat) (h : i < F.length) (z : Int) : z ∈ F[i].i :: (idsF (F.take i)).reverse ↔ z ∈ (idsF (F.take (i + 1))).reverse := by
  unfold idsF
  rw [List.take_succ_eq_append_getElem h, List.map_append, List.reverse_append]
  simp
theorem IS.same {W : World} {mb n : Nat} {xs ys : List Int} (h : IS W mb n xs) (e : ∀ z, z ∈ xs ↔ z ∈ ys) : IS W mb n ys := by
  obtain ⟨D, h1, h2⟩ := h
  refine ⟨D, h1, fun z hz => ?_⟩
  rw [h2 z hz]
  by_cases hm : z ∈ xs
  · rw [decide_eq_true hm, decide_eq_true ((e z).1 hm)]
  · rw [decide_eq_false hm, decide_eq_false (fun k => hm ((e z).2 k))]
/-- What is kept while the numbers are gathered: the result's box at w.heap.size, the map behind it. -/
def RA (w : World) (F : List Ht) (u : Value) (wr : World) : Prop := ∃ i : Nat, u = .int .i64 i ∧ i ≤ F.length ∧ Hid (IS wr (w.heap.size + 1) i (idsF (F.take i)).reverse ∧ wr.heap[w.heap.size]? = some (.cells #[.int .i64 0, .int .i64 0] 25 (0, 0)) ∧ Below w.heap.size w wr)
/-- .. while the wanted ones are counted: the share's box at s. -/
def RB (w w1 : World) (s : Nat) (F M : List Ht) (u : Value) (wr : World) : Prop := ∃ i : Nat, u = .int .i64 i ∧ i ≤ M.length ∧ Hid (wr.heap[s]? = some (.cells #[.int .i64 (cnF F (M.take i)), .int .i64 M.length] 25 (0, 0)) ∧ Stay (fun k => k = s) w1 wr)
set_option maxHeartbeats 2000000 in
set_option maxRecDepth 100000 in
theorem of_any (F M : List Ht) (hF : F.length ≤ 4398046511000) (hM : M.length ≤ 4398046511000) (wF : IdW F) (wM : IdW M) (lf lm : Option Addr) (cf cm : Nat) (w : World) (af : LAt w lf F) (am : LAt w lm M) :
    Calls Try.prog 5 #[.slice lf F.length cf, .slice lm M.length cm] w fun r w' => r = .returned (.agg #[.int .i64 (cnF F M), .int .i64 M.length]) ∧ Below w.heap.size w w' := by
  obtain ⟨n, hn⟩ : ∃ n, n = F.length := ⟨_, rfl⟩
  obtain ⟨m, hm⟩ : ∃ m, m = M.length := ⟨_, rfl⟩
  have HA := Hid.mk (And.intro af (And.intro wF hn))
  have HB := Hid.mk (And.intro am (And.intro wM hm))
  rw [← hn] at hF ⊢
  rw [← hm] at hM ⊢
  have R0 : Hid (RA w F (.int .i64 ((0 : Nat) : Int)) ((w.alloc (.cells #[.int .i64 0, .int .i64 0] 25)).alloc (.map #[] 0))) := ⟨0, rfl, Nat.zero_le _, by
      have h := IS.made (w.alloc (.cells #[.int .i64 0, .int .i64 0] 25))
      have h2 : IS ((w.alloc (.cells #[.int .i64 0, .int .i64 0] 25)).alloc (.map #[] 0)) (w.heap.size + 1) 0 [] := by simpa using h
      exact h2, (((Below.refl _ (w.alloc (.cells #[.int .i64 0, .int .i64 0] 25))).alloc (Nat.le_refl _) _).block w.heap.size (by simp)).trans (heap_alloc_last w _), ((Below.refl _ w).alloc (Nat.le_refl _) _).alloc (by simp) _⟩
  clear af am wF wM hn hm
  have hmm := @run_makeMap Try.prog
  go_enter Try.func5, Try.ntmps5
  go_wp2
  go_loopw [16] (fun u wr => RA w F u wr) (fun u _ => n - (intOf u).toNat)
  case atStart => exact R0.out
  case round =>
    clear R0
    obtain ⟨i, rfl, hi, HR⟩ := hrel
    by_cases hlt : i < n
    · have hl : i < F.length := by have := HA.out.2.2; omega
      have hne : F ≠ [] := fun h => by rw [h] at hl; simp at hl
      obtain ⟨g, o, e1, r1⟩ := HA.out.1.at' hne
      subst e1
      have hg : g < w.heap.size := HA.out.1.lt rfl hne
      obtain ⟨x0, x1, x2⟩ := row_en r1 (HR.out.2.2.block g hg) i hl
      have hz : I64 F[i].i := HA.out.2.1 _ (List.getElem_mem hl)
      have hIS := HR.out.1.below ((Below.refl _ wr).alloc (Nat.le_refl _) (.cells #[.int .i64 F[i].d, .int .i64 F[i].i, .string F[i].c] 29))
      obtain ⟨W', hput, i2, s2⟩ := hIS.put hz (by unfold maxLen; omega)
      have N2 := i2.same (ids_take F i hl)
      have hb : Below w.heap.size w W' := (HR.out.2.2.alloc HR.out.2.2.size _).trans (s2.toBelow (fun k hk e => by omega) (by have := HR.out.2.2.size; simp; omega))
      have HN : Hid (RA w F (.int .i64 ((i + 1 : Nat) : Int)) W') := ⟨i + 1, rfl, hl, N2, by
        have h1 : w.heap.size < wr.heap.size := (Array.getElem?_eq_some_iff.1 HR.out.2.1).1
        exact ((s2.block w.heap.size (by simp; omega) (by omega)).trans (((Below.refl _ wr).alloc (Nat.le_refl _) _).block _ h1)).trans HR.out.2.1, hb⟩
      obtain ⟨z, hze⟩ : ∃ z, z = F[i] := ⟨_, rfl⟩
      rw [← hze] at x0 x1 x2 hput
      have k1 : (i : Int) < (n : Int) := by omega
      have k2 : (0 : Int) ≤ (i : Int) := by omega
      have k3 : IntKind.i64.wrap ((i : Int) + 1) = ((i + 1 : Nat) : Int) := by rw [IntKind.wrap_i64]; omega
      clear hze N2 i2 s2 hb hIS hz r1 hne hl
      go_wp2
      exact ⟨HN.out, by simp only [intOf]; omega⟩
    · obtain rfl : i = n := by have := HA.out.2.2; omega
      have H1 : Hid (IS wr (w.heap.size + 1) i (idsF F).reverse ∧ wr.heap[w.heap.size]? = some (.cells #[.int .i64 0, .int .i64 0] 25 (0, 0)) ∧ Below w.heap.size w wr) := ⟨by
        have h := HR.out.1
        rwa [List.take_of_length_le (by have := HA.out.2.2; omega)] at h, HR.out.2⟩
      have R1 : Hid (RB w (wr.alloc (.cells #[.int .i64 0, .int .i64 (m : Int)] 25)) wr.heap.size F M (.int .i64 ((0 : Nat) : Int)) (wr.alloc (.cells #[.int .i64 0, .int .i64 (m : Int)] 25))) := ⟨0, rfl, Nat.zero_le _, by
        rw [heap_alloc_last, HB.out.2.2]; rfl, .refl _ _⟩
      clear HR hlt hi
      go_wp2
      obtain ⟨wo, rfl⟩ : ∃ wo : World, wo = wr := ⟨_, rfl⟩
      go_loopw [30] (fun u w2 => RB w (wo.alloc (.cells #[.int .i64 0, .int .i64 (m : Int)] 25)) wo.heap.size F M u w2) (fun u _ => m - (intOf u).toNat)
      case atStart => exact R1.out
      case round =>
        clear R1
        obtain ⟨j, rfl, hj, HR⟩ := hrel
        have hso : w.heap.size + 1 < wo.heap.size := H1.out.1.lt
        have hW1 : (wo.alloc (.cells #[.int .i64 0, .int .i64 (m : Int)] 25)).heap.size = wo.heap.size + 1 := by simp
        have bW1 : Below wo.heap.size wo (wo.alloc (.cells #[.int .i64 0, .int .i64 (m : Int)] 25)) := (Below.refl _ wo).alloc (Nat.le_refl _) _
        have hwr : wo.heap.size + 1 ≤ wr.heap.size := by have := HR.out.2.size; rw [hW1] at this; exact this
        have keep : ∀ k, k < wo.heap.size → wr.heap[k]? = wo.heap[k]? := fun k hk => (HR.out.2.block k (by rw [hW1]; omega) (by omega)).trans (bW1.block k hk)
        have hcn : cnF F (M.take j) ≤ 4398046511000 := Nat.le_trans (cnF_le _ _) (by rw [List.length_take]; have := HB.out.2.2; omega)
        obtain ⟨q, hq⟩ : ∃ q, q = cnF F (M.take j) := ⟨_, rfl⟩
        obtain ⟨ml, hml⟩ : ∃ ml, ml = M.length := ⟨_, rfl⟩
        have hbox := HR.out.1
        rw [← hq, ← hml] at hbox
        rw [← hq] at hcn
        by_cases hlt : j < m
        · have hl : j < M.length := by have := HB.out.2.2; omega
          have hne : M ≠ [] := fun h => by rw [h] at hl; simp at hl
          obtain ⟨g, o, e1, r1⟩ := HB.out.1.at' hne
          subst e1
          have hg : g < w.heap.size := HB.out.1.lt rfl hne
          obtain ⟨x0, x1, x2⟩ := row_en r1 ((keep g (by omega)).trans (H1.out.2.2.block g hg)) j hl
          have hz : I64 M[j].i := HB.out.2.1 _ (List.getElem_mem hl)
          have hst := cnF_step F M j hl
          obtain ⟨z, hze⟩ : ∃ z, z = M[j] := ⟨_, rfl⟩
          rw [← hze] at x0 x1 x2 hz hst
          rw [← hq] at hst
          obtain ⟨U, hU⟩ : ∃ U, U = wr.alloc (.cells #[.int .i64 z.d, .int .i64 z.i, .string z.c] 29) := ⟨_, rfl⟩
          have bU : Below wr.heap.size wr U := by rw [hU]; exact (Below.refl _ wr).alloc (Nat.le_refl _) _
          have hIS : IS U (w.heap.size + 1) i (idsF F).reverse := H1.out.1.block ((bU.block _ (by omega)).trans (keep _ hso))
          have hlook := hIS.look hz
          have bV : Below wr.heap.size wr (U.alloc (.cells #[] 31)) := bU.alloc bU.size _
          have hboxV : (U.alloc (.cells #[] 31)).heap[wo.heap.size]? = some (.cells #[.int .i64 (q : Int), .int .i64 (ml : Int)] 25 (0, 0)) := (bV.block _ (by omega)).trans hbox
          have c0 : (U.alloc (.cells #[] 31)).cell? ⟨wo.heap.size, 0, none⟩ = some (.int .i64 (q : Int)) := cell_of_row _ _ 0 _ _ _ hboxV
          have f0 : (U.alloc (.cells #[] 31)).frozen? ⟨wo.heap.size, 0, none⟩ = false := by simp [World.frozen?, hboxV]
          have k1 : (j : Int) < (m : Int) := by omega
          have k2 : (0 : Int) ≤ (j : Int) := by omega
          have k3 : IntKind.i64.wrap ((j : Int) + 1) = ((j + 1 : Nat) : Int) := by rw [IntKind.wrap_i64]; omega
          have k4 : IntKind.i64.wrap ((q : Int) + 1) = ((q + 1 : Nat) : Int) := by rw [IntKind.wrap_i64]; omega
          by_cases hm : z.i ∈ idsF F
          · have hd : decide (z.i ∈ (idsF F).reverse) = true := by simpa using hm
            rw [hd] at hlook
            rw [if_pos hm] at hst
            have HN : Hid (RB w (wo.alloc (.cells #[.int .i64 0, .int .i64 (m : Int)] 25)) wo.heap.size F M (.int .i64 ((j + 1 : Nat) : Int)) ((U.alloc (.cells #[] 31)).setCell ⟨wo.heap.size, 0, none⟩ (.int .i64 ((q + 1 : Nat) : Int)))) := ⟨j + 1, rfl, by omega, by
              rw [heap_setCell_same _ wo.heap.size 0 _ _ _ hboxV, hst, hml]; rfl, (HR.out.2.trans (Stay.below bV)).setCell (fun _ => rfl) _⟩
            clear hst hz hIS bV hboxV hd hm hq hml r1 hne hl hbox keep hg hze hW1 bW1 bU
            subst hU
            go_wp2
            exact ⟨HN.out, by simp only [intOf]; omega⟩
          · have hd : decide (z.i ∈ (idsF F).reverse) = false := by simpa using hm
            rw [hd] at hlook
            rw [if_neg hm] at hst
            have HN : Hid (RB w (wo.alloc (.cells #[.int .i64 0, .int .i64 (m : Int)] 25)) wo.heap.size F M (.int .i64 ((j + 1 : Nat) : Int)) (U.alloc (.cells #[] 31))) := ⟨j + 1, rfl, by omega, by
              rw [hboxV, hst, hml]; rfl, HR.out.2.trans (Stay.below bV)⟩
            clear hst hz hIS bV hboxV hd hm hq hml r1 hne hl hbox keep hg hze hW1 bW1 bU
            subst hU
            go_wp2
            exact ⟨HN.out, by simp only [intOf]; omega⟩
        · obtain rfl : j = m := by have := HB.out.2.2; omega
          have hfin : q = cnF F M := by rw [hq, List.take_of_length_le (by have := HB.out.2.2; omega)]
          have hsw : wr.heap[w.heap.size]? = wo.heap[w.heap.size]? := keep _ (by omega)
          have hbx := hsw.trans H1.out.2.1
          have z0 : wr.cell? ⟨w.heap.size, 0, none⟩ = some (.int .i64 0) := cell_of_row _ _ 0 _ _ _ hbx
          have z1 : wr.cell? ⟨w.heap.size, 1, none⟩ = some (.int .i64 0) := cell_of_row _ _ 1 _ _ _ hbx
          have g0 : (wr.setCell ⟨w.heap.size, 0, none⟩ (.int .i64 (q : Int))).heap[w.heap.size]? = some (.cells #[.int .i64 (q : Int), .int .i64 0] 25 (0, 0)) := by rw [heap_setCell_same wr w.heap.size 0 _ _ _ hbx]; rfl
          have g1 : ((wr.setCell ⟨w.heap.size, 0, none⟩ (.int .i64 (q : Int))).setCell ⟨w.heap.size, 1, none⟩ (.int .i64 (ml : Int))).heap[w.heap.size]? = some (.cells #[.int .i64 (q : Int), .int .i64 (ml : Int)] 25 (0, 0)) := by rw [heap_setCell_same _ w.heap.size 1 _ _ _ g0]; rfl
          have e0 : (wr.setCell ⟨w.heap.size, 0, none⟩ (.int .i64 (q : Int))).cell? ⟨w.heap.size, 0, none⟩ = some (.int .i64 (q : Int)) := cell_of_row _ _ 0 _ _ _ g0
          have e1 : ((wr.setCell ⟨w.heap.size, 0, none⟩ (.int .i64 (q : Int))).setCell ⟨w.heap.size, 1, none⟩ (.int .i64 (ml : Int))).cell? ⟨w.heap.size, 1, none⟩ = some (.int .i64 (ml : Int)) := cell_of_row _ _ 1 _ _ _ g1
          have f0 : wr.frozen? ⟨w.heap.size, 0, none⟩ = false := by simp [World.frozen?, hbx]
          have f1 : wr.frozen? ⟨w.heap.size, 1, none⟩ = false := by simp [World.frozen?, hbx]
          have b0 : wr.cell? ⟨wo.heap.size, 0, none⟩ = some (.int .i64 (q : Int)) := cell_of_row _ _ 0 _ _ _ hbox
          have b1 : wr.cell? ⟨wo.heap.size, 1, none⟩ = some (.int .i64 (ml : Int)) := cell_of_row _ _ 1 _ _ _ hbox
          have bb : Below w.heap.size w wr := H1.out.2.2.trans ((bW1.trans (HR.out.2.toBelow (fun k hk e => by omega) (by rw [hW1]; omega))).mono (by omega))
          have bq : Below w.heap.size w ((wr.setCell ⟨w.heap.size, 0, none⟩ (.int .i64 (q : Int))).setCell ⟨w.heap.size, 1, none⟩ (.int .i64 (ml : Int))) := (bb.setCell (Nat.le_refl _) _).setCell (Nat.le_refl _) _
          have HE := Hid.mk (And.intro hfin (And.intro (hml.trans HB.out.2.2.symm) (And.intro e0 (And.intro e1 bq))))
          clear hfin hsw hbox hq hml bb keep bW1 hW1 hbx g0 g1 e0 e1 bq
          go_wp2
          have e0 := HE.out.2.2.1
          have e1 := HE.out.2.2.2.1
          refine bodyPost_ret (v := .agg #[.int .i64 (q : Int), .int .i64 (ml : Int)]) (by simp [results, Try.results5, go_sem, e0, e1]; try rfl) rfl ?_
          exact ⟨by rw [HE.out.1, HE.out.2.1], HE.out.2.2.2.2⟩
set_option maxRecDepth 100000 in
theorem has_any (F : List Ht) (hF : F.length ≤ 4398046511000) (lf : Option Addr) (cf : Nat) (z : Int) (w : World) (af : LAt w lf F) :
    Calls Try.prog 8 #[.slice lf F.length cf, .int .i64 z] w fun r w' => r = .returned (.bool (decide (z ∈ idsF F))) ∧ w' = w := by
  obtain ⟨n, hn⟩ : ∃ n, n = F.length := ⟨_, rfl⟩
  have HA := Hid.mk (And.intro af hn)
  rw [← hn] at hF ⊢
  obtain ⟨r, hr⟩ : ∃ r, r = decide (z ∈ idsF F) := ⟨_, rfl⟩
  have HR := Hid.mk hr
  rw [← hr]
  clear af hn hr
  go_enter Try.func8, Try.ntmps8
  go_wp2
  go_loopw [5] (fun u wr => ∃ i : Nat, u = .int .i64 i ∧ i ≤ n ∧ Hid (z ∉ idsF (F.take i)) ∧ wr = w) (fun u _ => n - (intOf u).toNat)
  case atStart => exact ⟨0, rfl, Nat.zero_le _, by simp [idsF, Hid], rfl⟩
  case round =>
    obtain ⟨i, rfl, hi, HN, rfl⟩ := hrel
    by_cases hlt : i < n
    · have hl : i < F.length := by have := HA.out.2; omega
      have hne : F ≠ [] := fun h => by rw [h] at hl; simp at hl
      obtain ⟨g, o, e1, r1⟩ := HA.out.1.at' hne
      subst e1
      obtain ⟨x0, x1, x2⟩ := row_en r1 rfl i hl
      have hmem : F[i].i ∈ idsF F := List.mem_map_of_mem (List.getElem_mem hl)
      have hs : z ∉ idsF (F.take (i + 1)) ↔ z ≠ F[i].i := by
        have h1 := HN.out
        unfold idsF at h1 ⊢
        rw [List.take_succ_eq_append_getElem hl, List.map_append]
        simp only [List.map_cons, List.map_nil, List.mem_append, List.mem_singleton]
        constructor
        · intro h e; exact h (.inr e)
        · rintro h (h2 | h2)
          · exact h1 h2
          · exact h h2
      obtain ⟨y, hy⟩ : ∃ y, y = F[i].i := ⟨_, rfl⟩
      rw [← hy] at x1 hmem hs
      have k1 : (i : Int) < (n : Int) := by omega
      have k2 : (0 : Int) ≤ (i : Int) := by omega
      have k3 : IntKind.i64.wrap ((i : Int) + 1) = ((i + 1 : Nat) : Int) := by rw [IntKind.wrap_i64]; omega
      clear x0 x2 hy r1 hne hl
      by_cases hz : y = z
      · have hd : r = true := by rw [HR.out, ← hz]; exact decide_eq_true hmem
        subst hd
        subst hz
        clear hs hmem
        go_wp2
        go_ret
        exact ⟨rfl, rfl⟩
      · have HN2 : Hid (z ∉ idsF (F.take (i + 1))) := hs.2 (fun e => hz e.symm)
        have k5 : (y == z) = false := by simpa using hz
        clear hs hmem hz HN
        go_wp2
        exact ⟨⟨i + 1, rfl, hlt, HN2, trivial⟩, by simp only [intOf]; omega⟩
    · obtain rfl : i = n := by omega
      have hd : r = false := by
        rw [HR.out]
        have h1 := HN.out
        rw [List.take_of_length_le (by have := HA.out.2; omega)] at h1
        exact decide_eq_false h1
      subst hd
      clear HN
      go_wp2
      go_ret
      exact ⟨rfl, rfl⟩
/-- .. while the document counts: the share's box at s. -/
def RC (w : World) (F M : List Ht) (u : Value) (wr : World) : Prop := ∃ i : Nat, u = .int .i64 i ∧ i ≤ M.length ∧ Hid (wr.heap[w.heap.size]? = some (.cells #[.int .i64 0, .int .i64 0] 25 (0, 0)) ∧ wr.heap[w.heap.size + 1]? = some (.cells #[.int .i64 (cnF F (M.take i)), .int .i64 M.length] 25 (0, 0)) ∧ Below w.heap.size w wr)
set_option maxHeartbeats 2000000 in
set_option maxRecDepth 100000 in
theorem rof_any (F M : List Ht) (hF : F.length ≤ 4398046511000) (hM : M.length ≤ 4398046511000) (lf lm : Option Addr) (cf cm : Nat) (w : World) (af : LAt w lf F) (am : LAt w lm M) :
    Calls Try.prog 7 #[.slice lf F.length cf, .slice lm M.length cm] w fun r w' => r = .returned (.agg #[.int .i64 (cnF F M), .int .i64 M.length]) ∧ Below w.heap.size w w' := by
  obtain ⟨n, hn⟩ : ∃ n, n = F.length := ⟨_, rfl⟩
  obtain ⟨m, hm⟩ : ∃ m, m = M.length := ⟨_, rfl⟩
  have HA := Hid.mk (And.intro af hn)
  have HB := Hid.mk (And.intro am hm)
  rw [← hn] at hF ⊢
  rw [← hm] at hM ⊢
  have R0 : Hid (RC w F M (.int .i64 ((0 : Nat) : Int)) ((w.alloc (.cells #[.int .i64 0, .int .i64 0] 25)).alloc (.cells #[.int .i64 0, .int .i64 (m : Int)] 25))) := ⟨0, rfl, Nat.zero_le _, (((Below.refl _ (w.alloc (.cells #[.int .i64 0, .int .i64 0] 25))).alloc (Nat.le_refl _) _).block w.heap.size (by simp)).trans (heap_alloc_last w _), by
      have h := heap_alloc_last (w.alloc (.cells #[.int .i64 0, .int .i64 0] 25)) (.cells #[.int .i64 0, .int .i64 (m : Int)] 25)
      have e : (w.alloc (.cells #[.int .i64 0, .int .i64 0] 25)).heap.size = w.heap.size + 1 := by simp
      rw [e] at h
      rw [h, hm]; rfl, ((Below.refl _ w).alloc (Nat.le_refl _) _).alloc (by simp) _⟩
  clear af am hn hm
  go_enter Try.func7, Try.ntmps7
  go_wp2
  go_loopw [6] (fun u wr => RC w F M u wr) (fun u _ => m - (intOf u).toNat)
  case atStart => exact R0.out
  case round =>
    clear R0
    obtain ⟨j, rfl, hj, HR⟩ := hrel
    have hbox := HR.out.2.1
    have hcn : cnF F (M.take j) ≤ 4398046511000 := Nat.le_trans (cnF_le _ _) (by rw [List.length_take]; have := HB.out.2; omega)
    obtain ⟨q, hq⟩ : ∃ q, q = cnF F (M.take j) := ⟨_, rfl⟩
    obtain ⟨ml, hml⟩ : ∃ ml, ml = M.length := ⟨_, rfl⟩
    rw [← hq, ← hml] at hbox
    rw [← hq] at hcn
    by_cases hlt : j < m
    · have hl : j < M.length := by have := HB.out.2; omega
      have hne : M ≠ [] := fun h => by rw [h] at hl; simp at hl
      obtain ⟨g, o, e1, r1⟩ := HB.out.1.at' hne
      subst e1
      have hg : g < w.heap.size := HB.out.1.lt rfl hne
      obtain ⟨x0, x1, x2⟩ := row_en r1 (HR.out.2.2.block g hg) j hl
      have hst := cnF_step F M j hl
      obtain ⟨z, hze⟩ : ∃ z, z = M[j].i := ⟨_, rfl⟩
      rw [← hze] at x1 hst
      rw [← hq] at hst
      have hc := has_any F (by have := HA.out.2; omega) lf cf z wr (HA.out.1.below HR.out.2.2)
      rw [← HA.out.2] at hc
      have c0 : wr.cell? ⟨w.heap.size + 1, 0, none⟩ = some (.int .i64 (q : Int)) := cell_of_row _ _ 0 _ _ _ hbox
      have f0 : wr.frozen? ⟨w.heap.size + 1, 0, none⟩ = false := by simp [World.frozen?, hbox]
      have k1 : (j : Int) < (m : Int) := by omega
      have k2 : (0 : Int) ≤ (j : Int) := by omega
      have k3 : IntKind.i64.wrap ((j : Int) + 1) = ((j + 1 : Nat) : Int) := by rw [IntKind.wrap_i64]; omega
      have k4 : IntKind.i64.wrap ((q : Int) + 1) = ((q + 1 : Nat) : Int) := by rw [IntKind.wrap_i64]; omega
      by_cases hm : z ∈ idsF F
      · rw [decide_eq_true hm] at hc
        rw [if_pos hm] at hst
        have HN : Hid (RC w F M (.int .i64 ((j + 1 : Nat) : Int)) (wr.setCell ⟨w.heap.size + 1, 0, none⟩ (.int .i64 ((q + 1 : Nat) : Int)))) := ⟨j + 1, rfl, by omega, by
          rw [Below.heap_setCell wr _ _ _ (by simp)]; exact HR.out.1, by
          rw [heap_setCell_same wr (w.heap.size + 1) 0 _ _ _ hbox, hst, hml]; rfl, HR.out.2.2.setCell (by simp) _⟩
        clear hst hm hq hml r1 hne hl hbox hg hze x0 x2
        go_wp2_with (go_at_call 8; refine hc.mono ?_; clear hc; rintro e w3 ⟨rfl, rfl⟩)
        exact ⟨HN.out, by simp only [intOf]; omega⟩
      · rw [decide_eq_false hm] at hc
        rw [if_neg hm] at hst
        have HN : Hid (RC w F M (.int .i64 ((j + 1 : Nat) : Int)) wr) := ⟨j + 1, rfl, by omega, HR.out.1, by
          rw [hbox, hst, hml]; rfl, HR.out.2.2⟩
        clear hst hm hq hml r1 hne hl hbox hg hze x0 x2
        go_wp2_with (go_at_call 8; refine hc.mono ?_; clear hc; rintro e w3 ⟨rfl, rfl⟩)
        exact ⟨HN.out, by simp only [intOf]; omega⟩
    · obtain rfl : j = m := by have := HB.out.2; omega
      have hfin : q = cnF F M := by rw [hq, List.take_of_length_le (by have := HB.out.2; omega)]
      have hbx := HR.out.1
      have z0 : wr.cell? ⟨w.heap.size, 0, none⟩ = some (.int .i64 0) := cell_of_row _ _ 0 _ _ _ hbx
      have z1 : wr.cell? ⟨w.heap.size, 1, none⟩ = some (.int .i64 0) := cell_of_row _ _ 1 _ _ _ hbx
      have g0 : (wr.setCell ⟨w.heap.size, 0, none⟩ (.int .i64 (q : Int))).heap[w.heap.size]? = some (.cells #[.int .i64 (q : Int), .int .i64 0] 25 (0, 0)) := by rw [heap_setCell_same wr w.heap.size 0 _ _ _ hbx]; rfl
      have g1 : ((wr.setCell ⟨w.heap.size, 0, none⟩ (.int .i64 (q : Int))).setCell ⟨w.heap.size, 1, none⟩ (.int .i64 (ml : Int))).heap[w.heap.size]? = some (.cells #[.int .i64 (q : Int), .int .i64 (ml : Int)] 25 (0, 0)) := by rw [heap_setCell_same _ w.heap.size 1 _ _ _ g0]; rfl
      have e0 : (wr.setCell ⟨w.heap.size, 0, none⟩ (.int .i64 (q : Int))).cell? ⟨w.heap.size, 0, none⟩ = some (.int .i64 (q : Int)) := cell_of_row _ _ 0 _ _ _ g0
      have e1 : ((wr.setCell ⟨w.heap.size, 0, none⟩ (.int .i64 (q : Int))).setCell ⟨w.heap.size, 1, none⟩ (.int .i64 (ml : Int))).cell? ⟨w.heap.size, 1, none⟩ = some (.int .i64 (ml : Int)) := cell_of_row _ _ 1 _ _ _ g1
      have f0 : wr.frozen? ⟨w.heap.size, 0, none⟩ = false := by simp [World.frozen?, hbx]
      have f1 : wr.frozen? ⟨w.heap.size, 1, none⟩ = false := by simp [World.frozen?, hbx]
      have b0 : wr.cell? ⟨w.heap.size + 1, 0, none⟩ = some (.int .i64 (q : Int)) := cell_of_row _ _ 0 _ _ _ hbox
      have b1 : wr.cell? ⟨w.heap.size + 1, 1, none⟩ = some (.int .i64 (ml : Int)) := cell_of_row _ _ 1 _ _ _ hbox
      have bb : Below w.heap.size w wr := HR.out.2.2
      have bq : Below w.heap.size w ((wr.setCell ⟨w.heap.size, 0, none⟩ (.int .i64 (q : Int))).setCell ⟨w.heap.size, 1, none⟩ (.int .i64 (ml : Int))) := (bb.setCell (Nat.le_refl _) _).setCell (Nat.le_refl _) _
      have HE := Hid.mk (And.intro hfin (And.intro (hml.trans HB.out.2.symm) (And.intro e0 (And.intro e1 bq))))
      clear hfin hbox hq hml bb hbx g0 g1 e0 e1 bq
      go_wp2
      have e0 := HE.out.2.2.1
      have e1 := HE.out.2.2.2.1
      refine bodyPost_ret (v := .agg #[.int .i64 (q : Int), .int .i64 (ml : Int)]) (by simp [results, Try.results7, go_sem, e0, e1]; try rfl) rfl ?_
      exact ⟨by rw [HE.out.1, HE.out.2.1], HE.out.2.2.2.2⟩
end Go.Proofs.Ytecodnilbojodaa
