/-
  DERIVED. A search of nothing.
-/
import Derived.Test.YtdgiigaeclnflaaDoorPNames0
import Derived.Test.YtdgiigaeclnflaaDoorPEnds
set_option linter.unusedVariables false
set_option linter.unusedSimpArgs false
namespace Go.Proofs.YtdgiigaeclnflaaDoor
open Go.RowKit Go.Proofs.BitMath
theorem meth_tlist (p : Addr) (W : World) : (method 277 40 (.pointer (some p)) "List").run Tryd.prog W = .ok (78, .pointer (some p)) W := by kernel_rfl
/-- Four cells are stored. -/
theorem put4 {W : World} {r : Nat} {cs : Array Value} {T : TypeId} (h : W.heap[r]? = some (.cells cs T (0, 0))) (hl : cs.size = 4) (y0 y1 y2 y3 : Value) : ∃ W5, (((W.setCell ⟨r, 0, none⟩ y0).setCell ⟨r, 1, none⟩ y1).setCell ⟨r, 2, none⟩ y2).setCell ⟨r, 3, none⟩ y3 = W5 ∧ Stay (fun k => k = r) W W5 ∧ W5.heap[r]? = some (.cells #[y0, y1, y2, y3] T (0, 0)) := by
  refine ⟨_, rfl, ((((Stay.refl (fun k => k = r) W).setCell (fun _ => rfl) _).setCell (fun _ => rfl) _).setCell (fun _ => rfl) _).setCell (fun _ => rfl) _, ?_⟩
  have e0 := heap_setCell_same W r 0 _ _ y0 h
  have e1 := heap_setCell_same _ r 1 _ _ y1 e0
  have e2 := heap_setCell_same _ r 2 _ _ y2 e1
  have e3 := heap_setCell_same _ r 3 _ _ y3 e2
  rw [e3]
  rcases cs with ⟨l⟩
  rcases l with _ | ⟨a, _ | ⟨b, _ | ⟨c, _ | ⟨d, _ | ⟨e, l⟩⟩⟩⟩⟩ <;> simp at hl
  simp
def Four0 (b : Nat) (w' : World) : Prop := w'.cell? ⟨b, 10, none⟩ = some (.int .i64 0) ∧ w'.cell? ⟨b, 11, none⟩ = some (.int .i64 0) ∧ w'.cell? ⟨b, 12, none⟩ = some (.int .i64 0) ∧ w'.cell? ⟨b, 13, none⟩ = some (.int .i64 0)
theorem SeaAt.four {W : World} {b x m : Nat} {codes : Int} {vf af : Value} {q : ByteArray} {gc gv : Nat} {asks : Int} {mb : Nat} (h : SeaAt W b x m codes vf af q gc gv asks mb 0 0 0 0) : Four0 b W := ⟨h.cell 10 _ rfl, h.cell 11 _ rfl, h.cell 12 _ rfl, h.cell 13 _ rfl⟩
def RNo (w : World) (wr : World) : Prop := Below w.heap.size w wr
set_option maxHeartbeats 2000000 in
set_option maxRecDepth 100000 in
theorem answer_none (b x m : Nat) (hm0 : 0 < m) (hm8 : m ≤ 128) (vf af : Value) (q : ByteArray) (gc gv mb : Nat) (tb sb t k kp : Nat) (hk : 0 < k) (w : World) (h : SeaAt w b x m 0 vf af q gc gv 0 mb 0 0 0 0) (hl : LenM w mb 0) (hmb : mb < w.heap.size) (b0 : Int) (hc : w.cell? ⟨gc, 1, none⟩ = some (.int .i64 b0))
    (hT : TT w t k kp []) (h1 : w.cell? ⟨tb, 0, none⟩ = some (Pk t)) (h2 : w.cell? ⟨sb, 1, none⟩ = some (.int .i64 m)) (hbt : b ≠ t) (hbF : ¬ Ft w kp b) :
    Calls Tryd.prog 12 #[.pointer (some ⟨b, 0, none⟩), .iface 40 (Pk t), .func (.func 13) #[] #[.pointer (some ⟨tb, 0, none⟩), .pointer (some ⟨sb, 0, none⟩)]] w fun e w' => ∃ v, e = .returned (.tuple #[v, .agg #[.int .i64 0, .int .i64 0, .int .i64 0, .int .i64 0], .int .i64 0]) ∧ HRow w' v [] ∧ (∀ j, v.ownBlock = some j → w.heap.size ≤ j) ∧ Stay (fun j => j = b) w w' := by
  obtain ⟨W1, hW1⟩ : ∃ W1, W1 = w.alloc (.cells #[.int .i64 0, .int .i64 0, .int .i64 0, .int .i64 0] 28) := ⟨_, rfl⟩
  have bB : Below w.heap.size w W1 := by rw [hW1]; exact (Below.refl _ w).alloc (Nat.le_refl _) _
  have R1 : W1.heap[w.heap.size]? = some (.cells #[.int .i64 0, .int .i64 0, .int .i64 0, .int .i64 0] 28 (0, 0)) := by rw [hW1]; exact heap_alloc_last w _
  have sz1 : W1.heap.size = w.heap.size + 1 := by rw [hW1]; simp
  have hw1 := hW1.symm
  have hbl : b < w.heap.size := (Array.getElem?_eq_some_iff.1 h).1
  have HH := Hid.mk (And.intro h (And.intro hl (And.intro hmb (And.intro hc (And.intro hT (And.intro hbt hbF))))))
  have HR := Hid.mk (And.intro R1 (And.intro bB (And.intro sz1 hbl)))
  clear h hl hmb hc hT hbt hbF R1 bB sz1 hW1 hbl
  go_enter Tryd.func12, Tryd.ntmps12
  go_wp2
  go_loopw [] (fun wr => RNo W1 wr) (fun _ => 0)
  case atStart => exact Below.refl _ _
  case round =>
    have bw : Below w.heap.size w wr := HR.out.2.1.trans (hrel.mono HR.out.2.1.size)
    have hsea : SeaAt wr b x m 0 vf af q gc gv 0 mb 0 0 0 0 := (bw.block b HR.out.2.2.2).trans HH.out.1
    have z10 := hsea.cell 10 _ rfl
    have z12 := hsea.cell 12 _ rfl
    have z9 := hsea.cell 9 _ rfl
    have hen := endsK_any tb sb t k kp m 0 [] wr (HH.out.2.2.2.2.1.below bw).1 (cell_lat bw h1) (cell_lat bw h2) hm8 (by omega)
    rw [show (decide (([] : List Ht).length = k) && decide (wrs k [] < ((m * 0 : Nat) : Int))) = false from by simp; omega] at hen
    have hlm : LenM wr mb 0 := fun W hW => HH.out.2.1 W (hW.trans (bw.block mb HH.out.2.2.1))
    have hex := fun W (hW : Below wr.heap.size wr W) => exhausted_any b x m 0 vf af q gc gv 0 mb 0 0 0 0 0 W ((hW.block b (Nat.lt_of_lt_of_le HR.out.2.2.2 bw.size)).trans hsea) (fun V hV => hlm V (hV.trans (hW.block mb (Nat.lt_of_lt_of_le HH.out.2.2.1 bw.size)))) b0 (cell_lat hW (cell_lat bw HH.out.2.2.2.1)) hm0
    rw [show (decide ((0 : Int) ≤ ((0 : Nat) : Int)) || decide (b0 < (0 : Int))) = true from by simp] at hex
    have HB := Hid.mk (And.intro bw (And.intro hsea (And.intro hlm hrel)))
    have HQ : Hid (∀ w2 w3 : World, Below wr.heap.size wr w2 → Below w2.heap.size w2 w3 → (Builtin.len_ #[55] 3 #[.map (some mb)]).run Tryd.prog w3 = .ok (.int .i64 0) w3 ∧ w3.frozen? ⟨b, 12, none⟩ = false ∧ ∃ W4, w3.setCell ⟨b, 12, none⟩ (.int .i64 0) = W4 ∧ Hid (TT W4 t k kp [] ∧ SeaAt W4 b x m 0 vf af q gc gv 0 mb 0 0 0 0 ∧ Stay (fun j => j = b) w W4 ∧ W4.heap[w.heap.size]? = some (.cells #[.int .i64 0, .int .i64 0, .int .i64 0, .int .i64 0] 28 (0, 0)))) := fun w2 w3 c2 c3 => by
      have c23 : Below wr.heap.size wr w3 := c2.trans (c3.mono c2.size)
      have hs3 : SeaAt w3 b x m 0 vf af q gc gv 0 mb 0 0 0 0 := (c23.block b (Nat.lt_of_lt_of_le HR.out.2.2.2 bw.size)).trans hsea
      have cw : Below w.heap.size w w3 := bw.trans (c23.mono bw.size)
      have st : Stay (fun j => j = b) w3 (w3.setCell ⟨b, 12, none⟩ (.int .i64 0)) := stay_one' _ _ _ _
      refine ⟨hlm w3 (c23.block mb (Nat.lt_of_lt_of_le HH.out.2.2.1 bw.size)), hs3.free 12, _, rfl, ?_, ?_, (Stay.below cw).trans st, ?_⟩
      · have h9 := HH.out.2.2.2.2.1.below cw
        exact (h9.1.keep st (fun e => HH.out.2.2.2.2.2.1 e.symm) (fun j hj e => HH.out.2.2.2.2.2.2 (e ▸ (h9.2 j).1 hj))).1
      · unfold SeaAt
        rw [heap_setCell_same w3 b 12 _ _ _ hs3]; rfl
      · have h8 : wr.heap[w.heap.size]? = some (.cells #[.int .i64 0, .int .i64 0, .int .i64 0, .int .i64 0] 28 (0, 0)) := (hrel.block w.heap.size (by have := HR.out.2.2.1; omega)).trans HR.out.1
        have h9 : wr.heap[w.heap.size]? = w3.heap[w.heap.size]? := (c23.block _ (Array.getElem?_eq_some_iff.1 h8).1).symm
        exact (st.block w.heap.size (by have := HR.out.2.2.1; have := hrel.size; have := c23.size; omega) (fun e => by have := HR.out.2.2.2; omega)).trans (h9.symm.trans h8)
    clear hsea hlm bw hrel
    go_wp2_with first
      | (go_at_call 13; refine hen.mono ?_; clear hen; rintro e w2 ⟨rfl, b2⟩; replace z10 := cell_lat b2 z10; replace z12 := cell_lat b2 z12; replace z9 := cell_lat b2 z9)
      | (go_at_call 21; refine (hex _ b2).mono ?_; clear hex; rintro e w3 ⟨rfl, d3⟩; have b3 : Below w2.heap.size w2 w3 := d3.below _; replace z10 := cell_lat b3 z10; replace z12 := cell_lat b3 z12; replace z9 := cell_lat b3 z9; clear d3; obtain ⟨hln, f12, W4, hW4, HX⟩ := HQ.out _ _ b2 b3; clear HQ)
    have y10 := HX.out.2.1.cell 10 _ rfl
    have y11 := HX.out.2.1.cell 11 _ rfl
    have y12 := HX.out.2.1.cell 12 _ rfl
    have y13 := HX.out.2.1.cell 13 _ rfl
    have hli := tlist_any t k kp [] W4.drew (HX.out.1.below (b_drew W4)).1
    have hml : ∀ W, (method 277 40 (Pk t) "List").run Tryd.prog W = .ok (78, Pk t) W := fun W => meth_tlist _ W
    clear z10 z12 z9 hln f12
    have HP : Hid (∀ v5 w5, Told W4.drew w5 v5 [] → Four0 b w5 ∧ w5.cell? ⟨w.heap.size, 0, none⟩ = some (.int .i64 0) ∧ w5.cell? ⟨w.heap.size, 1, none⟩ = some (.int .i64 0) ∧ w5.cell? ⟨w.heap.size, 2, none⟩ = some (.int .i64 0) ∧ w5.cell? ⟨w.heap.size, 3, none⟩ = some (.int .i64 0) ∧ (∀ j, w5.frozen? ⟨w.heap.size, j, none⟩ = false) ∧ ∃ W6, Four0 b W6 ∧ (((w5.setCell ⟨w.heap.size, 0, none⟩ (.int .i64 0)).setCell ⟨w.heap.size, 1, none⟩ (.int .i64 0)).setCell ⟨w.heap.size, 2, none⟩ (.int .i64 0)).setCell ⟨w.heap.size, 3, none⟩ (.int .i64 0) = W6 ∧ W6.cell? ⟨w.heap.size, 0, none⟩ = some (.int .i64 0) ∧ W6.cell? ⟨w.heap.size, 1, none⟩ = some (.int .i64 0) ∧ W6.cell? ⟨w.heap.size, 2, none⟩ = some (.int .i64 0) ∧ W6.cell? ⟨w.heap.size, 3, none⟩ = some (.int .i64 0) ∧ Hid (HRow W6 v5 [] ∧ (∀ j, v5.ownBlock = some j → w.heap.size ≤ j) ∧ Stay (fun j => j = b) w W6)) := fun v5 w5 t5 => by
      have bb : Below W4.heap.size W4 w5 := below_d t5.2.2
      have hr5 : w5.heap[w.heap.size]? = some (.cells #[.int .i64 0, .int .i64 0, .int .i64 0, .int .i64 0] 28 (0, 0)) := (bb.block _ (Array.getElem?_eq_some_iff.1 HX.out.2.2.2).1).trans HX.out.2.2.2
      obtain ⟨W6, e6, s6, h6⟩ := put4 hr5 rfl (.int .i64 0) (.int .i64 0) (.int .i64 0) (.int .i64 0)
      have hlt : w.heap.size < W4.heap.size := (Array.getElem?_eq_some_iff.1 HX.out.2.2.2).1
      have a5 : SeaAt w5 b x m 0 vf af q gc gv 0 mb 0 0 0 0 := (bb.block _ (Array.getElem?_eq_some_iff.1 HX.out.2.1).1).trans HX.out.2.1
      have a6 : SeaAt W6 b x m 0 vf af q gc gv 0 mb 0 0 0 0 := (s6.block _ (Array.getElem?_eq_some_iff.1 a5).1 (fun e => by have := HR.out.2.2.2; omega)).trans a5
      refine ⟨a5.four, ?_, ?_, ?_, ?_, fun j => frozen_of_row _ _ _ _ _ hr5, W6, a6.four, e6, ?_, ?_, ?_, ?_, ?_, fun j hj => ?_, ?_⟩
      · rw [cell_of_row _ _ 0 _ _ (0, 0) hr5]; rfl
      · rw [cell_of_row _ _ 1 _ _ (0, 0) hr5]; rfl
      · rw [cell_of_row _ _ 2 _ _ (0, 0) hr5]; rfl
      · rw [cell_of_row _ _ 3 _ _ (0, 0) hr5]; rfl
      · rw [cell_of_row _ _ 0 _ _ (0, 0) h6]; rfl
      · rw [cell_of_row _ _ 1 _ _ (0, 0) h6]; rfl
      · rw [cell_of_row _ _ 2 _ _ (0, 0) h6]; rfl
      · rw [cell_of_row _ _ 3 _ _ (0, 0) h6]; rfl
      · exact row_kept t5.1 s6 (fun j hj e => by have h1 : W4.heap.size ≤ j := t5.2.1 j hj; omega)
      · have h1 : W4.heap.size ≤ j := t5.2.1 j hj
        have := HX.out.2.2.1.size
        omega
      · exact (HX.out.2.2.1.andThen (Stay.below (F := fun _ => False) bb) (fun _ _ e => e.elim)).andThen s6 (fun j hj e => by omega)
    have S4 : Four0 b W4.drew := HX.out.2.1.four
    unfold Four0 at S4
    go_region_held (fun w' => w'.cell? ⟨b, 10, none⟩ = some (.int .i64 0) ∧ w'.cell? ⟨b, 11, none⟩ = some (.int .i64 0) ∧ w'.cell? ⟨b, 12, none⟩ = some (.int .i64 0) ∧ w'.cell? ⟨b, 13, none⟩ = some (.int .i64 0))
      (first | exact S6 | exact S5 | exact S4)
      ((go_at_call 78; refine hli.mono ?_; clear hli; rintro e w5 ⟨v5, rfl, t5⟩; obtain ⟨S5, r0, r1, r2, r3, rf, W6, S6, hW6, g0, g1, g2, g3, HE⟩ := HP.out _ _ t5; clear HP t5; unfold Four0 at S5 S6))
    all_goals
      go_wp2
      clear S4 S5 S6 r0 r1 r2 r3 rf hW6 hml
      refine bodyPost_ret (v := .tuple #[v5, .agg #[.int .i64 0, .int .i64 0, .int .i64 0, .int .i64 0], .int .i64 0]) (by simp [results, Tryd.results12, go_sem, g0, g1, g2, g3]; try rfl) rfl ?_
      exact ⟨_, rfl, HE.out⟩
set_option maxHeartbeats 2000000 in
set_option maxRecDepth 100000 in
theorem topk_none (x m : Nat) (h : OkC x m) (f1 f2 : Fn) (a1 a2 c1 c2 : Array Value) (q : ByteArray) (hq : q.size = x / 8) (k : Nat) (hk : k ≤ 4096) (hk0 : 0 < k) (w : World) :
    Calls Tryd.prog 6 #[.agg (srcC x m 0 (.func f1 a1 c1) (.func f2 a2 c2)).toArray, .string q, .int .i64 k] w fun e w' => ∃ v, e = .returned (.tuple #[v, .agg #[.int .i64 0, .int .i64 0, .int .i64 0, .int .i64 0], .int .i64 0]) ∧ Told w w' v [] := by
  have hb := fun W => begin_yes x m h 0 (Int.le_refl _) f1 f2 a1 a2 c1 c2 q hq W
  have ht := fun W => newTop_any k hk W
  have hmf : ∀ (fn : Fn) (first cap : Array Value) (w : World), (Instr.makeFunc fn first cap).run Tryd.prog w = .ok (.func fn first cap) w := fun _ _ _ _ => rfl
  have hk1 : (0 : Int) < (k : Int) := by omega
  have hk2 : ¬ (k : Int) = 0 := by omega
  have hk3 : ((k : Int) == 0) = false := by simp; omega
  simp only [srcC] at hb ⊢
  obtain ⟨W0, hW0⟩ : ∃ W0, W0 = w.alloc (.cells (srcC x m 0 (.func f1 a1 c1) (.func f2 a2 c2)).toArray 25) := ⟨_, rfl⟩
  have bA : Below w.heap.size w W0 := by rw [hW0]; exact (Below.refl _ w).alloc (Nat.le_refl _) _
  have S0 : SAt W0 w.heap.size (srcC x m 0 (.func f1 a1 c1) (.func f2 a2 c2)) := by rw [hW0]; exact SAt.new w _ _
  have sz0 : W0.heap.size = w.heap.size + 1 := by rw [hW0]; simp
  have hw' := hW0.symm
  simp only [srcC] at hw'
  have HS := Hid.mk (And.intro S0 (And.intro bA sz0))
  obtain ⟨W1, hW1⟩ : ∃ W1, W1 = W0.alloc (.cells #[.int .i64 0, .int .i64 0, .int .i64 0, .int .i64 0] 28) := ⟨_, rfl⟩
  have bB : Below W0.heap.size W0 W1 := by rw [hW1]; exact (Below.refl _ W0).alloc (Nat.le_refl _) _
  have R1 : W1.heap[W0.heap.size]? = some (.cells #[.int .i64 0, .int .i64 0, .int .i64 0, .int .i64 0] 28 (0, 0)) := by rw [hW1]; exact heap_alloc_last W0 _
  have sz1 : W1.heap.size = w.heap.size + 2 := by rw [hW1]; simp [sz0]
  have hw1 := hW1.symm
  have z0 := cell_lat bB (S0 0 _ rfl)
  have z1 := cell_lat bB (S0 1 _ rfl)
  have z2 := cell_lat bB (S0 2 _ rfl)
  have z3 := cell_lat bB (S0 3 _ rfl)
  have z4 := cell_lat bB (S0 4 _ rfl)
  have HR := Hid.mk (And.intro R1 (And.intro bB sz1))
  have HO := Hid.mk (And.intro h.pos (And.intro h.le hk0))
  clear h hq hk hk0 hW0 S0 bA sz0 hW1 bB R1 sz1
  go_enter Tryd.func6, Tryd.ntmps6
  go_wp2_with first
    | (go_at_call 10; refine (hb _).mono ?_; clear hb; rintro e w1 ⟨b, gc, gv, mb, rfl, B1⟩)
    | (go_at_call 11; refine (ht _).mono ?_; clear ht; rintro e w2 ⟨t, kp, rfl, T2, F2, t2⟩)
  have HE : Hid (∀ v w3, HRow w3 v [] → (∀ j, v.ownBlock = some j → (w2.alloc (.cells #[Pk t] 40)).heap.size ≤ j) → Stay (fun j => j = b) (w2.alloc (.cells #[Pk t] 40)) w3 → w3.cell? ⟨W0.heap.size, 0, none⟩ = some (.int .i64 0) ∧ w3.cell? ⟨W0.heap.size, 1, none⟩ = some (.int .i64 0) ∧ w3.cell? ⟨W0.heap.size, 2, none⟩ = some (.int .i64 0) ∧ w3.cell? ⟨W0.heap.size, 3, none⟩ = some (.int .i64 0) ∧ (∀ j, w3.frozen? ⟨W0.heap.size, j, none⟩ = false) ∧ ∃ W6, (((w3.setCell ⟨W0.heap.size, 0, none⟩ (.int .i64 0)).setCell ⟨W0.heap.size, 1, none⟩ (.int .i64 0)).setCell ⟨W0.heap.size, 2, none⟩ (.int .i64 0)).setCell ⟨W0.heap.size, 3, none⟩ (.int .i64 0) = W6 ∧ W6.cell? ⟨W0.heap.size, 0, none⟩ = some (.int .i64 0) ∧ W6.cell? ⟨W0.heap.size, 1, none⟩ = some (.int .i64 0) ∧ W6.cell? ⟨W0.heap.size, 2, none⟩ = some (.int .i64 0) ∧ W6.cell? ⟨W0.heap.size, 3, none⟩ = some (.int .i64 0) ∧ Hid (Told w W6 v [])) := fun v w3 hv hvn st => by
    have s0 := HS.out.2.2
    have s1 := HR.out.2.2
    have b3 : Below w2.heap.size w2 (w2.alloc (.cells #[Pk t] 40)) := (Below.refl _ w2).alloc (Nat.le_refl _) _
    have bq : Below W1.heap.size W1 (w2.alloc (.cells #[Pk t] 40)) := B1.below.trans ((F2.2.mono B1.below.size).trans (b3.mono (Nat.le_trans B1.below.size F2.2.size)))
    have hnb := B1.nb
    have hr1 : (w2.alloc (.cells #[Pk t] 40)).heap[W0.heap.size]? = some (.cells #[.int .i64 0, .int .i64 0, .int .i64 0, .int .i64 0] 28 (0, 0)) := (bq.block _ (by omega)).trans HR.out.1
    have hr5 : w3.heap[W0.heap.size]? = some (.cells #[.int .i64 0, .int .i64 0, .int .i64 0, .int .i64 0] 28 (0, 0)) := (st.block _ (Array.getElem?_eq_some_iff.1 hr1).1 (fun e => by omega)).trans hr1
    obtain ⟨W6, e6, s6, h6⟩ := put4 hr5 rfl (.int .i64 0) (.int .i64 0) (.int .i64 0) (.int .i64 0)
    have hsz := bq.size
    have bw1 : Below w.heap.size w W1 := HS.out.2.1.trans (HR.out.2.1.mono HS.out.2.1.size)
    refine ⟨?_, ?_, ?_, ?_, fun j => frozen_of_row _ _ _ _ _ hr5, W6, e6, ?_, ?_, ?_, ?_, ?_, fun j hj => ?_, ?_⟩
    · rw [cell_of_row _ _ 0 _ _ (0, 0) hr5]; rfl
    · rw [cell_of_row _ _ 1 _ _ (0, 0) hr5]; rfl
    · rw [cell_of_row _ _ 2 _ _ (0, 0) hr5]; rfl
    · rw [cell_of_row _ _ 3 _ _ (0, 0) hr5]; rfl
    · rw [cell_of_row _ _ 0 _ _ (0, 0) h6]; rfl
    · rw [cell_of_row _ _ 1 _ _ (0, 0) h6]; rfl
    · rw [cell_of_row _ _ 2 _ _ (0, 0) h6]; rfl
    · rw [cell_of_row _ _ 3 _ _ (0, 0) h6]; rfl
    · exact row_kept hv s6 (fun j hj e => by have h1 := hvn j hj; omega)
    · have h1 := hvn j hj
      omega
    · exact bw1.trans ((bq.mono (by omega)).trans ((st.toBelow (B := w.heap.size) (fun j hj e => by omega) (by omega)).trans (s6.toBelow (B := w.heap.size) (fun j hj e => by omega) (by have := st.size; omega))))
  have b3 : Below w2.heap.size w2 (w2.alloc (.cells #[Pk t] 40)) := (Below.refl _ w2).alloc (Nat.le_refl _) _
  have l3 := heap_alloc_last w2 (.cells #[Pk t] 40)
  have b13 : Below w1.heap.size w1 (w2.alloc (.cells #[Pk t] 40)) := F2.2.trans (b3.mono F2.2.size)
  have hsea : SeaAt w1 b x m 0 (.func f1 a1 c1) (.func f2 a2 c2) q gc gv 0 mb 0 0 0 0 := B1.at'
  have hbl : b < w1.heap.size := (Array.getElem?_eq_some_iff.1 hsea).1
  have hml : mb < w1.heap.size := (Array.getElem?_eq_some_iff.1 B1.mp).1
  obtain ⟨cs, hcs, hch⟩ := B1.cs
  have hc1 : w1.cell? ⟨gc, 1, none⟩ = some (.int .i64 (btC x m 0)) := by
    rw [hcs.cell]; exact (hch.2 0 (List.mem_range.2 HO.out.1)).2
  have hT3 := T2.below b3
  have z1w : w1.cell? ⟨w.heap.size, 1, none⟩ = some (.int .i64 m) := cell_lat B1.below z1
  refine (answer_none b x m HO.out.1 HO.out.2.1 (.func f1 a1 c1) (.func f2 a2 c2) q gc gv mb w2.heap.size w.heap.size t k kp HO.out.2.2 _ ((b13.block b hbl).trans hsea) (lenM_none ((b13.block mb hml).trans B1.mp)) (Nat.lt_of_lt_of_le hml b13.size) (btC x m 0) (cell_lat b13 hc1) hT3.1 (by rw [cell_of_row _ _ 0 _ _ (0, 0) l3]; rfl) (cell_lat b13 z1w) (fun e => by omega) (fun e => by have := F2.1 b ((hT3.2 b).1 e); omega)).mono ?_
  rintro e w3 ⟨v, rfl, hv, hvn, st⟩
  obtain ⟨r0, r1, r2, r3, rf, W6, hW6, g0, g1, g2, g3, HF⟩ := HE.out v w3 hv hvn st
  clear HE hv hvn st b3 l3 b13 hsea hbl hml hcs hch hc1 hT3 z1w T2 F2 t2 B1
  go_wp2
  clear r0 r1 r2 r3 rf hW6 HS HR HO
  refine bodyPost_ret (v := .tuple #[v, .agg #[.int .i64 0, .int .i64 0, .int .i64 0, .int .i64 0], .int .i64 0]) (by simp [results, Tryd.results6, go_sem, g0, g1, g2, g3]; try rfl) rfl ?_
  exact ⟨_, rfl, HF.out⟩
end Go.Proofs.YtdgiigaeclnflaaDoor
