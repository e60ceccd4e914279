/-
  DERIVED. The laws' apart: its walk.
-/
import Derived.Test.YtecddamjolekmaaEApart
set_option linter.unusedVariables false
set_option linter.unusedSimpArgs false
namespace Go.Proofs.Ytecddamjolekmaa
open Go.RowKit
/-- A slice is put behind slices. -/
theorem more_app (W : World) (ms : List Value) (a : Option Addr) (c : Nat) (h : W.ownsRow 0 24 1 (.slice a ms.length c) ms.length ms) (hl : ms.length ≤ 2097152) (l : Value) (h1c : l.oneCell' = true) :
    ∃ a' c' W', (Builtin.append_ #[22, 22] 22 #[.slice a ms.length c, .slice (some ⟨W.heap.size, 0, none⟩) 1 1]).run Try.prog (W.alloc (.cells #[l] 24)) = .ok (.slice a' (ms.length + 1) c') W' ∧ W'.ownsRow 0 24 1 (.slice a' (ms.length + 1) c') (ms ++ [l]).length (ms ++ [l]) ∧
      Stay (fun k => (Value.slice a ms.length c).ownBlock = some k) W W' ∧ ∀ b, (Value.slice a' (ms.length + 1) c').ownBlock = some b → (Value.slice a ms.length c).ownBlock = some b ∨ W.heap.size ≤ b := by
  obtain ⟨i0, hi, hz0, hz1, hz2⟩ := info_parts infoHs
  have bA : Below W.heap.size W (W.alloc (.cells #[l] 24)) := (Below.refl _ W).alloc (Nat.le_refl _) _
  have h2A := row_kept h (F := fun _ => False) (.below bA) (fun _ _ h => h)
  obtain ⟨v', W', hap, ho, hg, -, hloc⟩ := run_append_own_at (P := Try.prog) (W.alloc (.cells #[l] 24)) 0 22 22 24 i0 _ 1 24 Try.underlying22 hi hz0 hz1 hz2 rfl (by decide) _ ms.length _ h2A ⟨W.heap.size, 0, none⟩ 1 1 [l] rfl (fun j u hu => new_cells W [l] 24 j u hu) (fun u hu => by simp at hu; subst hu; exact h1c) (by unfold maxLen; omega) (by omega) (Nat.zero_le _)
  obtain ⟨a', c', rfl, -⟩ := slice_form ho
  have st : Stay (fun k => (Value.slice a ms.length c).ownBlock = some k) (W.alloc (.cells #[l] 24)) W' := .grown hg (fun k hk => hk)
  refine ⟨a', c', W', hap, by rw [List.length_append]; exact ho, (Stay.below bA).trans st, fun b hb => ?_⟩
  rcases hloc with e | e
  · exact .inl (e ▸ hb)
  · rw [e] at hb; cases hb; exact .inr bA.size
def RC (w1 : World) (NN : Nat) (u : Value) (wr : World) : Prop := ∃ i : Nat, u = .int .i64 i ∧ i ≤ NN ∧ Below w1.heap.size w1 wr
def RC2 (W1 : World) (m : Nat) (u : Value) (wr : World) : Prop := ∃ j : Nat, u = .int .i64 j ∧ j ≤ m ∧ Drew W1 wr
theorem RMark.start (w1 : World) (s : Value) (n i bx : Nat) (X : List Ht) (hX : X.length = n) (h : HRow w1 s X) (W : World) (b : Below w1.heap.size w1 W) (hb : W.heap[bx]? = some (.cells (hC (mrk i)).toArray 28 (0, 0))) : RMark w1 s n i bx (.int .i64 0) W :=
  ⟨0, X, rfl, Nat.zero_le _, hX, rfl, HRow.below h b, hb, .below b⟩
set_option maxHeartbeats 4000000 in
set_option maxRecDepth 100000 in
theorem apart_any (lv : Value) (ss : List Value) (ns : List Nat) (w : World) (h : AP w lv ss ns) (hN : ss.length ≤ 1048576) (hn : ∀ n ∈ ns, n ≤ 4398046510976) :
    Calls Try.prog 10 #[lv] w fun e w' => e = .returned (.bool true) ∧ Stay (fun k => ∃ (j : Nat) (s : Value), ss[j]? = some s ∧ s.ownBlock = some k) w w' := by
  obtain ⟨a0, c0, hlv, -⟩ := slice_form h.row
  obtain ⟨NN, hNN⟩ : ∃ NN, NN = ss.length := ⟨_, rfl⟩
  rw [← hNN] at hlv hN
  have HH := Hid.mk (And.intro h (And.intro hn hNN))
  have Q0 : Hid (AQ w w ss ns lv (.slice none 0 0) [] 0) := ⟨rfl, h.len, h.row, ⟨rfl, .inl ⟨rfl, rfl⟩⟩, fun b hb => (by cases hb), fun b hb => row_lt h.row hb, fun j s b hs hb => by
    have hj : j < ns.length := by rw [h.len]; exact (List.getElem?_eq_some_iff.1 hs).1
    obtain ⟨X, -, hX⟩ := h.each j s _ hs (List.getElem?_eq_getElem hj)
    exact row_lt hX hb, h.apart, fun j s m n hs hm hn => by simp at hm, fun j s n _ hs hn => h.each j s n hs hn, fun j s m b hs hm => by simp at hm, .refl _ _⟩
  subst hlv
  clear h hn hNN
  go_enter Try.func10, Try.ntmps10
  go_wp2
  go_loopw [3, 4] (fun um ui wr => RM w ss ns (.slice a0 NN c0) um ui wr) (fun _ u _ => NN - (intOf u).toNat)
  case atStart => exact ⟨0, none, 0, [], rfl, rfl, Nat.zero_le _, Q0⟩
  case round =>
    clear Q0
    obtain ⟨i, am, cm, ms, rfl, rfl, hi, HQ⟩ := hrel
    obtain ⟨w1, rfl⟩ : ∃ w1, w1 = wr := ⟨_, rfl⟩
    by_cases hlt : i < NN
    · have i1 : (i : Int) < (NN : Int) := by omega
      have i2 : (0 : Int) ≤ (i : Int) := by omega
      have hil : i < ss.length := by have := HH.out.2.2; omega
      obtain ⟨s, hs⟩ : ∃ s, ss[i]? = some s := ⟨_, List.getElem?_eq_getElem hil⟩
      obtain ⟨n, hn⟩ : ∃ n, ns[i]? = some n := ⟨_, List.getElem?_eq_getElem (by rw [HQ.out.len]; exact hil)⟩
      have hnl : n ≤ 4398046510976 := HH.out.2.1 n (List.mem_of_getElem? hn)
      obtain ⟨X, hXn, hX⟩ := HQ.out.left i s n (Nat.le_refl _) hs hn
      obtain ⟨sa, sc, hsv, -⟩ := slice_form hX
      rw [hXn] at hsv
      have hw20 : IntKind.i64.wrap (-20 - (i : Int)) = -20 - (i : Int) := by rw [IntKind.wrap_i64]; omega
      have hwi : IntKind.i64.wrap ((i : Int) + 1) = ((i + 1 : Nat) : Int) := by rw [IntKind.wrap_i64]; omega
      have bA : Below w1.heap.size w1 (w1.alloc (.cells (hC (mrk i)).toArray 28)) := (Below.refl _ w1).alloc (Nat.le_refl _) _
      have hb1 := heap_alloc_last w1 (.cells (hC (mrk i)).toArray 28)
      obtain ⟨W1, hW1⟩ : ∃ W1, W1 = w1.alloc (.cells (hC (mrk i)).toArray 28) := ⟨_, rfl⟩
      rw [← hW1] at bA hb1
      have hw' : w1.alloc (.cells #[.int .i64 (-20 - (i : Int)), .int .i64 (-20 - (i : Int)), .string ⟨#[109, 97, 114, 107]⟩] 28) = W1 := hW1.symm
      have hrow := HQ.out.lrow
      obtain ⟨g0, hg0⟩ : ∃ g0, a0 = some ⟨g0, 0, none⟩ := by
        rcases hrow.2 with ⟨e, e2⟩ | ⟨g, cap, cur, e, -⟩
        · omega
        · simp only [Value.slice.injEq] at e
          exact ⟨g, e.1⟩
      subst hg0
      have x0 : W1.cell? ⟨g0, i, none⟩ = some (.slice sa n sc) := by
        have h9 := HQ.out.lrow
        rw [← HH.out.2.2] at h9
        have := World.ownsRow.cellAt h9 i (by omega)
        rw [hs, hsv] at this
        exact cell_lat bA this
      have HB : Hid (∀ b, s.ownBlock = some b → b < w1.heap.size) := fun b hb => row_lt hX hb
      have R0 := Hid.mk (RMark.start w1 s n i w1.heap.size X hXn hX W1 bA hb1)
      have HS := Hid.mk (And.intro hs (And.intro hn hsv))
      clear hs hn hX hXn bA hb1 hW1 hrow
      go_wp2
      clear x0
      go_loopw [7] (fun u wr => RMark w1 s n i w1.heap.size u wr) (fun u _ => n - (intOf u).toNat)
      case atStart => exact R0.out
      case round =>
        obtain ⟨j, Y, rfl, hj, HM⟩ := hrel
        by_cases hjn : j < n
        · have j1 : (j : Int) < (n : Int) := by omega
          have j2 : (0 : Int) ≤ (j : Int) := by omega
          have hjY : j < Y.length := by have := HM.out.1; omega
          obtain ⟨g, cap, e1, y0, y1, y2, fz⟩ := HRow.at' HM.out.2.2.1 j hjY
          have e2 := HS.out.2.2
          rw [e1] at e2
          simp only [Value.slice.injEq] at e2
          obtain ⟨rfl, -, rfl⟩ := e2
          obtain ⟨z0, z1, z2⟩ := box_cells HM.out.2.2.2.1
          have f0 := fz (j * 3)
          have f1 := fz (j * 3 + 1)
          have f2 := fz (j * 3 + 2)
          have hgb : g < w1.heap.size := HB.out g (by rw [e1]; rfl)
          have hsv' := HS.out.2.2
          have HN : Hid (RMark w1 s n i w1.heap.size (.int .i64 ((j + 1 : Nat) : Int)) (put3 wr g j (mrk i))) := by
            refine ⟨j + 1, Y.set j (mrk i), rfl, hjn, by rw [List.length_set]; exact HM.out.1, ?_, ?_, ?_, ?_⟩
            · rw [List.take_succ_eq_append_getElem (by rw [List.length_set]; exact hjY), List.take_set_of_le (Nat.le_refl _), HM.out.2.1, List.getElem_set_self, List.replicate_succ']
            · rw [hsv']
              exact set3 (by have := HM.out.2.2.1; rw [hsv'] at this; exact this) HM.out.1.symm j hjY (mrk i)
            · have := (put3_stay (F := fun k => k = g) (b := g) (i := j) (A := mrk i) (Stay.refl _ wr) rfl).block w1.heap.size (Array.getElem?_eq_some_iff.1 HM.out.2.2.2.1).1 (fun e => by omega)
              exact this.trans HM.out.2.2.2.1
            · exact put3_stay (F := fun k => s.ownBlock = some k) HM.out.2.2.2.2 (by rw [hsv']; rfl)
          have hwj : IntKind.i64.wrap ((j : Int) + 1) = ((j + 1 : Nat) : Int) := by rw [IntKind.wrap_i64]; omega
          simp only [mrk] at z0 z1 z2 HN
          clear fz e1 hsv' HM R0
          go_wp2
          exact ⟨HN.out, by simp only [intOf]; omega⟩
        · have j1 : ¬ (j : Int) < (n : Int) := by omega
          have hYr : Y = List.replicate n (mrk i) := by
            have h1 := HM.out.2.1
            rw [List.take_of_length_le (by have := HM.out.1; omega)] at h1
            rw [h1]; congr 1; omega
          have G0 : Hid (RGrow w1 s n i w1.heap.size (.slice sa (n + 0) sc) (.int .i64 ((0 : Nat) : Int)) wr) := by
            refine ⟨0, sa, sc, rfl, rfl, by omega, by rw [← hYr]; exact HM.out.2.2.1, ?_, HM.out.2.2.2.1, HM.out.2.2.2.2, ?_⟩
            · have h9 := HM.out.2.2.1
              rw [hYr, HS.out.2.2] at h9; exact h9
            · cases sa with
              | none => exact .inr (fun b hb => by cases hb)
              | some ad =>
                have h9 := HM.out.2.2.1
                rw [HS.out.2.2] at h9
                rcases h9.2 with ⟨e, _⟩ | ⟨g, cap, cur, e, -⟩
                · cases e
                · simp only [Value.slice.injEq] at e
                  obtain ⟨e3, -, rfl⟩ := e
                  exact .inl ⟨g, sc, by rw [HS.out.2.2, e3], by rw [e3]⟩
          clear HM hYr R0
          go_wp2
          clear j1
          go_loopw [6, 8] (fun ul u wr => RGrow w1 s n i w1.heap.size ul u wr) (fun _ u _ => 70 - (intOf u).toNat)
          case atStart => exact G0.out
          case round =>
            obtain ⟨t, al, cl, rfl, rfl, ht, HG⟩ := hrel
            by_cases htl : t < 70
            · have t1 : (t : Int) < 70 := by omega
              have hsz : w1.heap.size + 1 ≤ wr.heap.size := (Array.getElem?_eq_some_iff.1 HG.out.2.2.1).1
              obtain ⟨z0, z1, z2⟩ := box_cells HG.out.2.2.1
              obtain ⟨l', W', hap, hl', hs', hr', st'⟩ := grow_one wr n t s (.slice al (n + t) cl) (mrk i) (w1.heap.size + 1) hsz HG.out.1 HG.out.2.1 HG.out.2.2.2.2 (fun b hb => by have := HB.out b hb; omega) (by omega)
              obtain ⟨a', c', e', -⟩ := slice_form hl'
              rw [List.length_replicate] at e'
              subst e'
              have hlB : ∀ k, (Value.slice al (n + t) cl).ownBlock = some k → s.ownBlock = some k ∨ w1.heap.size + 1 ≤ k := fun k hk => by
                rcases HG.out.2.2.2.2 with ⟨g, cap, e1, e2⟩ | h9
                · left; rw [e1]; rw [e2] at hk; exact hk
                · exact .inr (h9 k hk)
              have HN : Hid (RGrow w1 s n i w1.heap.size (.slice a' (n + (t + 1)) c') (.int .i64 ((t + 1 : Nat) : Int)) W') := by
                refine ⟨t + 1, a', c', rfl, rfl, htl, hs', hl', ?_, ?_, hr'⟩
                · refine (st'.block w1.heap.size (by omega) (fun e => ?_)).trans HG.out.2.2.1
                  rcases e with e | e
                  · have := HB.out _ e; omega
                  · rcases hlB _ e with h9 | h9
                    · have := HB.out _ h9; omega
                    · omega
                · refine HG.out.2.2.2.1.andThen st' (fun k hk e => ?_)
                  rcases e with e | e
                  · exact e
                  · rcases hlB k e with h9 | h9
                    · exact h9
                    · omega
              have hwt : IntKind.i64.wrap ((t : Int) + 1) = ((t + 1 : Nat) : Int) := by rw [IntKind.wrap_i64]; omega
              obtain ⟨q1, hq1⟩ : ∃ q1, q1 = n + t := ⟨_, rfl⟩
              obtain ⟨q2, hq2⟩ : ∃ q2, q2 = n + (t + 1) := ⟨_, rfl⟩
              rw [← hq1] at hap ⊢
              rw [← hq2] at hap HN
              simp only [hC, mrk] at hap z0 z1 z2
              clear hq1 hq2 hlB st' hr' hs' hl' HG G0
              go_wp2_with (at_builtin; refine wpList_append_eq rfl _ _ _ _ rfl _ _ _ _ rfl rfl hap ?_; clear hap)
              exact ⟨HN.out, by simp only [intOf]; omega⟩
            · have t1 : ¬ (t : Int) < 70 := by omega
              obtain rfl : t = 70 := by omega
              have hml := HQ.out.ml
              have hsX : ∃ X0 : List Ht, HRow w1 s X0 := by
                obtain ⟨X0, -, h0⟩ := HQ.out.left i s n (Nat.le_refl _) HS.out.1 HS.out.2.1
                exact ⟨X0, h0⟩
              have mr : wr.ownsRow 0 24 1 (.slice am i cm) ms.length ms := by
                obtain ⟨X0, h0⟩ := hsX
                exact row_kept HQ.out.mrow HG.out.2.2.2.1 (fun k hk e => hs_apart HQ.out.mrow h0 hk e)
              obtain ⟨a3, c3, W3, hap, m3, st3, hnew⟩ := more_app wr ms am cm (by rw [hml]; rw [hml] at mr; exact mr) (by omega) (.slice al (n + 70) cl) rfl
              rw [hml] at hap m3 st3 hnew
              have Q3 := HQ.out.step HS.out.1 HS.out.2.1 HG.out.2.2.2.1 HG.out.1 HG.out.2.1 (fun b hb => by
                rcases HG.out.2.2.2.2 with ⟨g, cap, e1, e2⟩ | h9
                · left; rw [e1]; rw [e2] at hb; exact hb
                · right; have := h9 b hb; omega) m3 st3 hnew
              have HN : Hid (RM w ss ns (.slice (some ⟨g0, 0, none⟩) NN c0) (.slice a3 (i + 1) c3) (.int .i64 ((i + 1 : Nat) : Int)) W3) := ⟨i + 1, a3, c3, _, rfl, rfl, hil, Q3⟩
              clear Q3 m3 st3 hnew mr hsX HG G0 HQ
              go_wp2_with (at_builtin; refine wpList_append_eq rfl _ _ _ _ rfl _ _ _ _ rfl rfl hap ?_; clear hap)
              exact ⟨HN.out, by simp only [intOf]; omega⟩
    · have i1 : ¬ (i : Int) < (NN : Int) := by omega
      obtain rfl : i = NN := by have := HH.out.2.2; omega
      clear hi hlt
      go_wp2
      clear i1
      go_loopw [9] (fun u wr => RC w1 i u wr) (fun u _ => i - (intOf u).toNat)
      case atStart => exact ⟨0, rfl, Nat.zero_le _, Below.refl _ _⟩
      case round =>
        obtain ⟨q, rfl, hq, bq⟩ := hrel
        by_cases hlt : q < i
        · have q1 : (q : Int) < (i : Int) := by omega
          have q2 : (0 : Int) ≤ (q : Int) := by omega
          have hql : q < ss.length := by have := HH.out.2.2; omega
          have hqm : q < ms.length := by have := HQ.out.ml; omega
          obtain ⟨s, hs⟩ : ∃ s, ss[q]? = some s := ⟨_, List.getElem?_eq_getElem hql⟩
          obtain ⟨m, hm⟩ : ∃ m, ms[q]? = some m := ⟨_, List.getElem?_eq_getElem hqm⟩
          obtain ⟨n, hn⟩ : ∃ n, ns[q]? = some n := ⟨_, List.getElem?_eq_getElem (by rw [HQ.out.len]; exact hql)⟩
          have hnl : n ≤ 4398046510976 := HH.out.2.1 n (List.mem_of_getElem? hn)
          obtain ⟨d1, d2⟩ := HQ.out.done q s m n hs hm hn
          obtain ⟨sa, sc, hsv, -⟩ := slice_form d1
          obtain ⟨ma, mc, hmv, -⟩ := slice_form d2
          rw [List.length_replicate] at hsv hmv
          subst hsv
          subst hmv
          have hw20 : IntKind.i64.wrap (-20 - (q : Int)) = -20 - (q : Int) := by rw [IntKind.wrap_i64]; omega
          have hwi : IntKind.i64.wrap ((q : Int) + 1) = ((q + 1 : Nat) : Int) := by rw [IntKind.wrap_i64]; omega
          have bA : Below wr.heap.size wr (wr.alloc (.cells (hC (mrk q)).toArray 28)) := (Below.refl _ wr).alloc (Nat.le_refl _) _
          have hb1 := heap_alloc_last wr (.cells (hC (mrk q)).toArray 28)
          obtain ⟨W1, hW1⟩ : ∃ W1, W1 = wr.alloc (.cells (hC (mrk q)).toArray 28) := ⟨_, rfl⟩
          rw [← hW1] at bA hb1
          have hw' : wr.alloc (.cells #[.int .i64 (-20 - (q : Int)), .int .i64 (-20 - (q : Int)), .string ⟨#[109, 97, 114, 107]⟩] 28) = W1 := hW1.symm
          have bW : Below w1.heap.size w1 W1 := bq.trans (bA.mono bq.size)
          obtain ⟨g0, hg0⟩ : ∃ g0, a0 = some ⟨g0, 0, none⟩ := by
            rcases HQ.out.lrow.2 with ⟨e, e2⟩ | ⟨g, cap, cur, e, -⟩
            · omega
            · simp only [Value.slice.injEq] at e
              exact ⟨g, e.1⟩
          obtain ⟨gm, hgm⟩ : ∃ gm, am = some ⟨gm, 0, none⟩ := by
            rcases HQ.out.mrow.2 with ⟨e, e2⟩ | ⟨g, cap, cur, e, -⟩
            · omega
            · simp only [Value.slice.injEq] at e
              exact ⟨g, e.1⟩
          subst hg0
          subst hgm
          have x0 : W1.cell? ⟨g0, q, none⟩ = some (.slice sa n sc) := by
            have h9 := HQ.out.lrow
            rw [← HH.out.2.2] at h9
            have := World.ownsRow.cellAt h9 q (by omega)
            rw [hs] at this
            exact cell_lat bW this
          have x1 : W1.cell? ⟨gm, q, none⟩ = some (.slice ma (n + 70) mc) := by
            have h9 := HQ.out.mrow
            rw [HQ.out.ml] at h9
            have := World.ownsRow.cellAt h9 q (by omega)
            rw [hm] at this
            exact cell_lat bW this
          obtain ⟨z0, z1, z2⟩ := box_cells hb1
          have D := Hid.mk (And.intro (HRow.below d1 bW) (HRow.below d2 bW))
          have HN : Hid (∀ W, Drew W1 W → RC w1 i (.int .i64 ((q + 1 : Nat) : Int)) W) := fun W hd => ⟨q + 1, rfl, hlt, bW.trans (hd.below _)⟩
          simp only [mrk] at z0 z1 z2
          obtain ⟨mL, hmL⟩ : ∃ mL, mL = n + 70 := ⟨_, rfl⟩
          rw [← hmL] at x1
          have HmL := Hid.mk hmL
          clear hs hm hn d1 d2 bA hb1 hW1 bq bW hmL
          go_wp2
          go_loopw [11] (fun u wr => RC2 W1 mL u wr) (fun u _ => mL - (intOf u).toNat)
          case atStart => exact ⟨0, rfl, Nat.zero_le _, Drew.refl _⟩
          case round =>
            obtain ⟨j, rfl, hj, hd⟩ := hrel
            obtain ⟨dq, rfl⟩ := hd
            by_cases hjl : j < mL
            · have j1 : (j : Int) < (mL : Int) := by omega
              have j2 : (0 : Int) ≤ (j : Int) := by omega
              have hmle := HmL.out
              obtain ⟨bm, cm2, e1, u0, u1, u2, -⟩ := HRow.at' D.out.2 j (by rw [List.length_replicate]; omega)
              simp only [Value.slice.injEq] at e1
              obtain ⟨rfl, -, rfl⟩ := e1
              rw [List.getElem_replicate] at u0 u1 u2
              have HR2 : Hid (RC2 W1 mL (.int .i64 ((j + 1 : Nat) : Int)) (W1.drewN dq).drew) := ⟨j + 1, rfl, hjl, Drew.drew ⟨dq, rfl⟩⟩
              have hwj : IntKind.i64.wrap ((j : Int) + 1) = ((j + 1 : Nat) : Int) := by rw [IntKind.wrap_i64]; omega
              simp only [mrk] at u0 u1 u2
              by_cases hjn : j < n
              · have j3 : (j : Int) < (n : Int) := by omega
                obtain ⟨bs, cs2, e1, v0, v1, v2, -⟩ := HRow.at' D.out.1 j (by rw [List.length_replicate]; omega)
                simp only [Value.slice.injEq] at e1
                obtain ⟨rfl, -, rfl⟩ := e1
                rw [List.getElem_replicate] at v0 v1 v2
                simp only [mrk] at v0 v1 v2
                clear hmle HmL D HN
                go_wp2
                go_region
                all_goals
                  go_wp2
                  exact ⟨HR2.out, by simp only [intOf]; omega⟩
              · have j3 : ¬ (j : Int) < (n : Int) := by omega
                have j4 : ¬ j < n := hjn
                clear hmle HmL D HN
                go_wp2
                go_region
                all_goals
                  go_wp2
                  exact ⟨HR2.out, by simp only [intOf]; omega⟩
            · have j1 : ¬ (j : Int) < (mL : Int) := by omega
              have HE := Hid.mk (HN.out _ ⟨dq, rfl⟩)
              clear HN
              go_wp2
              exact ⟨HE.out, by simp only [intOf]; omega⟩
        · have q1 : ¬ (q : Int) < (i : Int) := by omega
          have HE : Hid (Stay (fun k => ∃ (j : Nat) (s : Value), ss[j]? = some s ∧ s.ownBlock = some k) w wr) := HQ.out.st.andThen (Stay.below (F := fun _ => False) bq) (fun _ _ h => h.elim)
          clear HQ HH bq
          go_wp2
          go_ret
          exact ⟨rfl, HE.out⟩
end Go.Proofs.Ytecddamjolekmaa
