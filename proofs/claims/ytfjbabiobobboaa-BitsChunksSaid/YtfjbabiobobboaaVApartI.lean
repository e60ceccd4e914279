/-
  DERIVED. The laws' apartInts.
-/
import Derived.Test.YtfjbabiobobboaaVInt
set_option linter.unusedVariables false
set_option linter.unusedSimpArgs false
namespace Go.Proofs.Ytfjbabiobobboaa
open Go.RowKit
def apartIM (i : Nat) : Int := -20 - (i : Int)
def apartIR (w : World) (ss : List Value) (ns : List Nat) (lv : Value) (um ui : Value) (wr : World) : Prop := ∃ (i : Nat) (a : Option Addr) (c : Nat) (ms : List Value), um = .slice a i c ∧ ui = .int .i64 i ∧ i ≤ ss.length ∧ Hid (EI.AQ apartIM w wr ss ns lv (.slice a i c) ms i)
def apartIK (w1 : World) (s : Value) (n i : Nat) (bx : Nat) (u : Value) (wr : World) : Prop := ∃ (j : Nat) (X : List (Int)), u = .int .i64 j ∧ j ≤ n ∧ Hid (X.length = n ∧ X.take j = List.replicate j (apartIM i) ∧ EI.Row wr s X ∧ Stay (fun k => s.ownBlock = some k) w1 wr)
def apartIG (w1 : World) (s : Value) (n i : Nat) (bx : Nat) (ul u : Value) (wr : World) : Prop := ∃ (t : Nat) (a : Option Addr) (c : Nat), ul = .slice a (n + t) c ∧ u = .int .i64 t ∧ t ≤ 70 ∧ Hid (EI.Row wr s (List.replicate n (apartIM i)) ∧ EI.Row wr (.slice a (n + t) c) (List.replicate (n + t) (apartIM i)) ∧ Stay (fun k => s.ownBlock = some k) w1 wr ∧ w1.heap.size + 0 ≤ wr.heap.size ∧
  ((∃ g cap, s = .slice (some ⟨g, 0, none⟩) n cap ∧ Value.slice a (n + t) c = .slice (some ⟨g, 0, none⟩) (n + t) cap) ∨ ∀ b, (Value.slice a (n + t) c).ownBlock = some b → w1.heap.size + 0 ≤ b))
def apartIC (w1 : World) (NN : Nat) (u : Value) (wr : World) : Prop := ∃ i : Nat, u = .int .i64 i ∧ i ≤ NN ∧ Below w1.heap.size w1 wr
def apartID (W1 : World) (m : Nat) (u : Value) (wr : World) : Prop := ∃ j : Nat, u = .int .i64 j ∧ j ≤ m ∧ Drew W1 wr
set_option maxHeartbeats 4000000 in
set_option maxRecDepth 100000 in
theorem apartI_any (lv : Value) (ss : List Value) (ns : List Nat) (w : World) (h : EI.AP w lv ss ns) (hN : ss.length ≤ 1048576) (hn : ∀ n ∈ ns, n ≤ 1048576) :
    Calls Try.prog 14 #[lv] w fun e w' => e = .returned (.bool true) ∧ Stay (fun k => ∃ (j : Nat) (s : Value), ss[j]? = some s ∧ s.ownBlock = some k) w w' := by
  obtain ⟨a0, c0, hlv, -⟩ := slice_form h.row
  obtain ⟨NN, hNN⟩ : ∃ NN, NN = ss.length := ⟨_, rfl⟩
  rw [← hNN] at hlv hN
  have HH := Hid.mk (And.intro h (And.intro hn hNN))
  have Q0 : Hid (EI.AQ apartIM w w ss ns lv (.slice none 0 0) [] 0) := El.AQ.start h
  subst hlv
  clear h hn hNN
  go_enter Try.func14, Try.ntmps14
  go_wp2
  go_loopw [3, 4] (fun um ui wr => apartIR w ss ns (.slice a0 NN c0) um ui wr) (fun _ u _ => NN - (intOf u).toNat)
  case atStart => exact ⟨0, none, 0, [], rfl, rfl, Nat.zero_le _, Q0⟩
  case round =>
    clear Q0
    obtain ⟨i, am, cm, ms, rfl, rfl, hi, HQ⟩ := hrel
    obtain ⟨w1, rfl⟩ : ∃ w1, w1 = wr := ⟨_, rfl⟩
    by_cases hlt : i < NN
    · have i1 : (i : Int) < (NN : Int) := by omega
      have i2 : (0 : Int) ≤ (i : Int) := by omega
      have hil : i < ss.length := by have := HH.out.2.2; omega
      obtain ⟨s, hs⟩ : ∃ s, ss[i]? = some s := ⟨_, List.getElem?_eq_getElem hil⟩
      obtain ⟨n, hn⟩ : ∃ n, ns[i]? = some n := ⟨_, List.getElem?_eq_getElem (by rw [HQ.out.len]; exact hil)⟩
      have hnl : n ≤ 1048576 := HH.out.2.1 n (List.mem_of_getElem? hn)
      obtain ⟨X, hXn, hX⟩ := HQ.out.left i s n (Nat.le_refl _) hs hn
      obtain ⟨sa, sc, hsv, -⟩ := slice_form hX
      rw [hXn] at hsv
      have hw20 : IntKind.i64.wrap (-20 - (i : Int)) = -20 - (i : Int) := by rw [IntKind.wrap_i64]; omega
      have hwi : IntKind.i64.wrap ((i : Int) + 1) = ((i + 1 : Nat) : Int) := by rw [IntKind.wrap_i64]; omega
      obtain ⟨g0, hg0⟩ : ∃ g0, a0 = some ⟨g0, 0, none⟩ := by
        rcases HQ.out.lrow.2 with ⟨e, e2⟩ | ⟨g, cap, cur, e, -⟩
        · omega
        · simp only [Value.slice.injEq] at e
          exact ⟨g, e.1⟩
      subst hg0
      have x0 : w1.cell? ⟨g0, i, none⟩ = some (.slice sa n sc) := by
        have h9 := HQ.out.lrow
        rw [← HH.out.2.2] at h9
        have := World.ownsRow.cellAt h9 i (by omega)
        rw [hs, hsv] at this
        exact this
      have HB : Hid (∀ b, s.ownBlock = some b → b < w1.heap.size) := fun b hb => row_lt hX hb
      have R0 : Hid (apartIK w1 s n i w1.heap.size (.int .i64 ((0 : Nat) : Int)) w1) := ⟨0, X, rfl, Nat.zero_le _, hXn, rfl, hX, .refl _ _⟩
      have HS := Hid.mk (And.intro hs (And.intro hn hsv))
      clear hs hn hX hXn
      go_wp2
      clear x0
      go_loopw [6] (fun u wr => apartIK w1 s n i w1.heap.size u wr) (fun u _ => n - (intOf u).toNat)
      case atStart => exact R0.out
      case round =>
        obtain ⟨j, Y, rfl, hj, HM⟩ := hrel
        by_cases hjn : j < n
        · have j1 : (j : Int) < (n : Int) := by omega
          have j2 : (0 : Int) ≤ (j : Int) := by omega
          have hjY : j < Y.length := by have := HM.out.1; omega
          obtain ⟨g, cap, e1, Y0, fz⟩ := intRow HM.out.2.2.1 j hjY
          have e2 := HS.out.2.2
          rw [e1] at e2
          simp only [Value.slice.injEq] at e2
          obtain ⟨rfl, -, rfl⟩ := e2
          obtain ⟨p0, y0⟩ : ∃ p, wr.cell? ⟨g, j, none⟩ = some p := ⟨_, Y0⟩
          have f0 := fz j
          have hsv' := HS.out.2.2
          have st1 : Stay (fun k => k = g) wr (wr.setCell ⟨g, j, none⟩ (.int .i64 (-20 - (i : Int)))) := (Stay.refl (fun k => k = g) wr).setCell (fun _ => rfl) _
          have HN : Hid (apartIK w1 s n i w1.heap.size (.int .i64 ((j + 1 : Nat) : Int)) (wr.setCell ⟨g, j, none⟩ (.int .i64 (-20 - (i : Int))))) := by
            refine ⟨j + 1, Y.set j (apartIM i), rfl, hjn, by rw [List.length_set]; exact HM.out.1, ?_, ?_, ?_⟩
            · rw [List.take_succ_eq_append_getElem (by rw [List.length_set]; exact hjY), List.take_set_of_le (Nat.le_refl _), HM.out.2.1, List.getElem_set_self, List.replicate_succ']
            · rw [hsv']
              exact intSet (by have := HM.out.2.2.1; rw [hsv'] at this; exact this) HM.out.1.symm j hjY (apartIM i)
            · exact HM.out.2.2.2.trans (st1.mono (fun k _ e => by rw [hsv', e]; rfl))
          have hwj : IntKind.i64.wrap ((j : Int) + 1) = ((j + 1 : Nat) : Int) := by rw [IntKind.wrap_i64]; omega
          clear fz e1 hsv' HM R0 st1 Y0
          go_wp2
          exact ⟨HN.out, by simp only [intOf]; omega⟩
        · have j1 : ¬ (j : Int) < (n : Int) := by omega
          have hYr : Y = List.replicate n (apartIM i) := by
            have h1 := HM.out.2.1
            rw [List.take_of_length_le (by have := HM.out.1; omega)] at h1
            rw [h1]; congr 1; omega
          have G0 : Hid (apartIG w1 s n i w1.heap.size (.slice sa (n + 0) sc) (.int .i64 ((0 : Nat) : Int)) wr) := by
            refine ⟨0, sa, sc, rfl, rfl, by omega, by rw [← hYr]; exact HM.out.2.2.1, ?_, HM.out.2.2.2, ?_, ?_⟩
            · have h9 := HM.out.2.2.1
              rw [hYr, HS.out.2.2] at h9; exact h9
            · exact HM.out.2.2.2.size
            · cases sa with
              | none => exact .inr (fun b hb => by cases hb)
              | some ad =>
                have h9 := HM.out.2.2.1
                rw [HS.out.2.2] at h9
                rcases h9.2 with ⟨e, _⟩ | ⟨g, cap, cur, e, -⟩
                · cases e
                · simp only [Value.slice.injEq] at e
                  obtain ⟨e3, -, rfl⟩ := e
                  exact .inl ⟨g, sc, by rw [HS.out.2.2, e3], by rw [e3]⟩
          clear HM hYr R0
          go_wp2
          clear j1
          go_loopw [5, 7] (fun ul u wr => apartIG w1 s n i w1.heap.size ul u wr) (fun _ u _ => 70 - (intOf u).toNat)
          case atStart => exact G0.out
          case round =>
            obtain ⟨t, al, cl, rfl, rfl, ht, HG⟩ := hrel
            by_cases htl : t < 70
            · have t1 : (t : Int) < 70 := by omega
              have hsz : w1.heap.size + 0 ≤ wr.heap.size := HG.out.2.2.2.1
              obtain ⟨l', W', hap, hl', hs', hr', st'⟩ := El.grow okI wr n t s (.slice al (n + t) cl) (apartIM i) (w1.heap.size + 0) hsz HG.out.1 HG.out.2.1 HG.out.2.2.2.2 (fun b hb => by have := HB.out b hb; omega) (by omega)
              obtain ⟨a', c', e', -⟩ := slice_form hl'
              rw [List.length_replicate] at e'
              subst e'
              have hlB : ∀ k, (Value.slice al (n + t) cl).ownBlock = some k → s.ownBlock = some k ∨ w1.heap.size + 0 ≤ k := fun k hk => by
                rcases HG.out.2.2.2.2 with ⟨g, cap, e1, e2⟩ | h9
                · left; rw [e1]; rw [e2] at hk; exact hk
                · exact .inr (h9 k hk)
              have HN : Hid (apartIG w1 s n i w1.heap.size (.slice a' (n + (t + 1)) c') (.int .i64 ((t + 1 : Nat) : Int)) W') := by
                refine ⟨t + 1, a', c', rfl, rfl, htl, hs', hl', ?_, Nat.le_trans hsz st'.size, hr'⟩
                · refine HG.out.2.2.1.andThen st' (fun k hk e => ?_)
                  rcases e with e | e
                  · exact e
                  · rcases hlB k e with h9 | h9
                    · exact h9
                    · omega
              have hwt : IntKind.i64.wrap ((t : Int) + 1) = ((t + 1 : Nat) : Int) := by rw [IntKind.wrap_i64]; omega
              obtain ⟨q1, hq1⟩ : ∃ q1, q1 = n + t := ⟨_, rfl⟩
              obtain ⟨q2, hq2⟩ : ∃ q2, q2 = n + (t + 1) := ⟨_, rfl⟩
              rw [← hq1] at hap ⊢
              rw [← hq2] at hap HN
              dsimp only [EI, apartIM] at hap
              clear hq1 hq2 hlB st' hr' hs' hl' HG G0
              go_wp2_with (at_builtin; refine wpList_append_eq rfl _ _ _ _ rfl _ _ _ _ rfl rfl hap ?_; clear hap)
              exact ⟨HN.out, by simp only [intOf]; omega⟩
            · have t1 : ¬ (t : Int) < 70 := by omega
              obtain rfl : t = 70 := by omega
              have hml := HQ.out.ml
              have hsX : ∃ X0 : List (Int), EI.Row w1 s X0 := by
                obtain ⟨X0, -, h0⟩ := HQ.out.left i s n (Nat.le_refl _) HS.out.1 HS.out.2.1
                exact ⟨X0, h0⟩
              have mr : wr.ownsRow 0 22 1 (.slice am i cm) ms.length ms := by
                obtain ⟨X0, h0⟩ := hsX
                exact row_kept HQ.out.mrow HG.out.2.2.1 (fun k hk e => El.two okI HQ.out.mrow h0 hk e)
              obtain ⟨a3, c3, W3, hap, m3, st3, hnew⟩ := El.more okI wr ms am cm (by rw [hml]; rw [hml] at mr; exact mr) (by omega) (.slice al (n + 70) cl) rfl
              rw [hml] at hap m3 st3 hnew
              dsimp only [EI] at hap
              have Q3 := El.AQ.step okI HQ.out HS.out.1 HS.out.2.1 HG.out.2.2.1 HG.out.1 HG.out.2.1 (fun b hb => by
                rcases HG.out.2.2.2.2 with ⟨g, cap, e1, e2⟩ | h9
                · left; rw [e1]; rw [e2] at hb; exact hb
                · right; have := h9 b hb; omega) m3 st3 hnew
              have HN : Hid (apartIR w ss ns (.slice (some ⟨g0, 0, none⟩) NN c0) (.slice a3 (i + 1) c3) (.int .i64 ((i + 1 : Nat) : Int)) W3) := ⟨i + 1, a3, c3, _, rfl, rfl, hil, Q3⟩
              clear Q3 m3 st3 hnew mr hsX HG G0 HQ
              go_wp2_with (at_builtin; refine wpList_append_eq rfl _ _ _ _ rfl _ _ _ _ rfl rfl hap ?_; clear hap)
              exact ⟨HN.out, by simp only [intOf]; omega⟩
    · have i1 : ¬ (i : Int) < (NN : Int) := by omega
      obtain rfl : i = NN := by have := HH.out.2.2; omega
      clear hi hlt
      go_wp2
      clear i1
      go_loopw [8] (fun u wr => apartIC w1 i u wr) (fun u _ => i - (intOf u).toNat)
      case atStart => exact ⟨0, rfl, Nat.zero_le _, Below.refl _ _⟩
      case round =>
        obtain ⟨q, rfl, hq, bq⟩ := hrel
        by_cases hlt : q < i
        · have q1 : (q : Int) < (i : Int) := by omega
          have q2 : (0 : Int) ≤ (q : Int) := by omega
          have hql : q < ss.length := by have := HH.out.2.2; omega
          have hqm : q < ms.length := by have := HQ.out.ml; omega
          obtain ⟨s, hs⟩ : ∃ s, ss[q]? = some s := ⟨_, List.getElem?_eq_getElem hql⟩
          obtain ⟨m, hm⟩ : ∃ m, ms[q]? = some m := ⟨_, List.getElem?_eq_getElem hqm⟩
          obtain ⟨n, hn⟩ : ∃ n, ns[q]? = some n := ⟨_, List.getElem?_eq_getElem (by rw [HQ.out.len]; exact hql)⟩
          have hnl : n ≤ 1048576 := HH.out.2.1 n (List.mem_of_getElem? hn)
          obtain ⟨d1, d2⟩ := HQ.out.done q s m n hs hm hn
          obtain ⟨sa, sc, hsv, -⟩ := slice_form d1
          obtain ⟨ma, mc, hmv, -⟩ := slice_form d2
          rw [List.length_replicate] at hsv hmv
          subst hsv
          subst hmv
          have hw20 : IntKind.i64.wrap (-20 - (q : Int)) = -20 - (q : Int) := by rw [IntKind.wrap_i64]; omega
          have hwi : IntKind.i64.wrap ((q : Int) + 1) = ((q + 1 : Nat) : Int) := by rw [IntKind.wrap_i64]; omega
          obtain ⟨g0, hg0⟩ : ∃ g0, a0 = some ⟨g0, 0, none⟩ := by
            rcases HQ.out.lrow.2 with ⟨e, e2⟩ | ⟨g, cap, cur, e, -⟩
            · omega
            · simp only [Value.slice.injEq] at e
              exact ⟨g, e.1⟩
          obtain ⟨gm, hgm⟩ : ∃ gm, am = some ⟨gm, 0, none⟩ := by
            rcases HQ.out.mrow.2 with ⟨e, e2⟩ | ⟨g, cap, cur, e, -⟩
            · omega
            · simp only [Value.slice.injEq] at e
              exact ⟨g, e.1⟩
          subst hg0
          subst hgm
          obtain ⟨W1, hW1⟩ : ∃ W1, W1 = wr := ⟨_, rfl⟩
          have bW : Below w1.heap.size w1 W1 := by rw [hW1]; exact bq
          subst hW1
          have x0 : W1.cell? ⟨g0, q, none⟩ = some (.slice sa n sc) := by
            have h9 := HQ.out.lrow
            rw [← HH.out.2.2] at h9
            have := World.ownsRow.cellAt h9 q (by omega)
            rw [hs] at this
            exact cell_lat bW this
          have x1 : W1.cell? ⟨gm, q, none⟩ = some (.slice ma (n + 70) mc) := by
            have h9 := HQ.out.mrow
            rw [HQ.out.ml] at h9
            have := World.ownsRow.cellAt h9 q (by omega)
            rw [hm] at this
            exact cell_lat bW this
          have D := Hid.mk (And.intro (El.Row.below d1 bW) (El.Row.below d2 bW))
          have HN : Hid (∀ W, Drew W1 W → apartIC w1 i (.int .i64 ((q + 1 : Nat) : Int)) W) := fun W hd => ⟨q + 1, rfl, hlt, bW.trans (hd.below _)⟩
          obtain ⟨mL, hmL⟩ : ∃ mL, mL = n + 70 := ⟨_, rfl⟩
          rw [← hmL] at x1
          have HmL := Hid.mk hmL
          clear hs hm hn d1 d2 bW hmL
          go_wp2
          go_loopw [9] (fun u wr => apartID W1 mL u wr) (fun u _ => mL - (intOf u).toNat)
          case atStart => exact ⟨0, rfl, Nat.zero_le _, Drew.refl _⟩
          case round =>
            obtain ⟨j, rfl, hj, hd⟩ := hrel
            obtain ⟨dq, rfl⟩ := hd
            by_cases hjl : j < mL
            · have j1 : (j : Int) < (mL : Int) := by omega
              have j2 : (0 : Int) ≤ (j : Int) := by omega
              have hmle := HmL.out
              obtain ⟨bm, cm2, e1, u0, -⟩ := intRow D.out.2 j (by rw [List.length_replicate]; omega)
              simp only [Value.slice.injEq] at e1
              obtain ⟨rfl, -, rfl⟩ := e1
              rw [List.getElem_replicate] at u0
              simp only [apartIM] at u0
              have HR1 : Hid (apartID W1 mL (.int .i64 ((j + 1 : Nat) : Int)) (W1.drewN dq)) := ⟨j + 1, rfl, hjl, ⟨dq, rfl⟩⟩
              have HR2 : Hid (apartID W1 mL (.int .i64 ((j + 1 : Nat) : Int)) (W1.drewN dq).drew) := ⟨j + 1, rfl, hjl, Drew.drew ⟨dq, rfl⟩⟩
              have hwj : IntKind.i64.wrap ((j : Int) + 1) = ((j + 1 : Nat) : Int) := by rw [IntKind.wrap_i64]; omega
              by_cases hjn : j < n
              · have j3 : (j : Int) < (n : Int) := by omega
                obtain ⟨bs, cs2, e1, v0, -⟩ := intRow D.out.1 j (by rw [List.length_replicate]; omega)
                simp only [Value.slice.injEq] at e1
                obtain ⟨rfl, -, rfl⟩ := e1
                rw [List.getElem_replicate] at v0
                simp only [apartIM] at v0
                clear hmle HmL D HN
                go_wp2
                first
                | exact ⟨HR1.out, by simp only [intOf]; omega⟩
                | exact ⟨HR2.out, by simp only [intOf]; omega⟩
              · have j3 : ¬ (j : Int) < (n : Int) := by omega
                have j4 : ¬ j < n := hjn
                clear hmle HmL D HN
                go_wp2
                first
                | exact ⟨HR1.out, by simp only [intOf]; omega⟩
                | exact ⟨HR2.out, by simp only [intOf]; omega⟩
            · have j1 : ¬ (j : Int) < (mL : Int) := by omega
              have HE := Hid.mk (HN.out _ ⟨dq, rfl⟩)
              clear HN
              go_wp2
              exact ⟨HE.out, by simp only [intOf]; omega⟩
        · have q1 : ¬ (q : Int) < (i : Int) := by omega
          have HE : Hid (Stay (fun k => ∃ (j : Nat) (s : Value), ss[j]? = some s ∧ s.ownBlock = some k) w wr) := HQ.out.st.andThen (Stay.below (F := fun _ => False) bq) (fun _ _ h => h.elim)
          clear HQ HH bq
          go_wp2
          go_ret
          exact ⟨rfl, HE.out⟩
end Go.Proofs.Ytfjbabiobobboaa
