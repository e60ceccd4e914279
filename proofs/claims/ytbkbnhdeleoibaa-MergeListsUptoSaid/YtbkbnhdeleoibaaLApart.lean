/-
  DERIVED. The laws' apart: lists of the call's own share nothing.
-/
import Derived.Test.YtbkbnhdeleoibaaLRow
set_option linter.unusedVariables false
set_option linter.unusedSimpArgs false
namespace Go.Proofs.Ytbkbnhdeleoibaa
open Go.RowKit
def mrk (i : Nat) : En := mkE (20 + (i : Int))
/-- Lists of the call's own, each in a block of its own. -/
structure AP (W : World) (lv : Value) (ss : List Value) (ns : List Nat) : Prop where
  len : ns.length = ss.length
  row : W.ownsRow 0 24 1 lv ss.length ss
  each : ∀ (j : Nat) (s : Value) (n : Nat), ss[j]? = some s → ns[j]? = some n → ∃ X : List En, X.length = n ∧ HRow W s X
  apart : ∀ (j l : Nat) (s u : Value) (b : Nat), ss[j]? = some s → ss[l]? = some u → s.ownBlock = some b → u.ownBlock = some b → j = l
/-- While each is marked and grown. -/
structure AQ (w W : World) (ss : List Value) (ns : List Nat) (lv mv : Value) (ms : List Value) (i : Nat) : Prop where
  ml : ms.length = i
  len : ns.length = ss.length
  lrow : W.ownsRow 0 24 1 lv ss.length ss
  mrow : W.ownsRow 0 24 1 mv ms.length ms
  mnew : ∀ b, mv.ownBlock = some b → w.heap.size ≤ b
  lold : ∀ b, lv.ownBlock = some b → b < w.heap.size
  sold : ∀ (j : Nat) (s : Value) (b : Nat), ss[j]? = some s → s.ownBlock = some b → b < w.heap.size
  apart : ∀ (j l : Nat) (s u : Value) (b : Nat), ss[j]? = some s → ss[l]? = some u → s.ownBlock = some b → u.ownBlock = some b → j = l
  done : ∀ (j : Nat) (s m : Value) (n : Nat), ss[j]? = some s → ms[j]? = some m → ns[j]? = some n → HRow W s (List.replicate n (mrk j)) ∧ HRow W m (List.replicate (n + 70) (mrk j))
  left : ∀ (j : Nat) (s : Value) (n : Nat), i ≤ j → ss[j]? = some s → ns[j]? = some n → ∃ X : List En, X.length = n ∧ HRow W s X
  loc : ∀ (j : Nat) (s m : Value) (b : Nat), ss[j]? = some s → ms[j]? = some m → m.ownBlock = some b → s.ownBlock = some b ∨ w.heap.size ≤ b
  st : Stay (fun k => ∃ (j : Nat) (s : Value), ss[j]? = some s ∧ s.ownBlock = some k) w W
theorem AQ.step {w W W2 W3 : World} {ss : List Value} {ns : List Nat} {lv mv mv' : Value} {ms : List Value} {i n : Nat} {s l : Value} (q : AQ w W ss ns lv mv ms i) (hs : ss[i]? = some s) (hn : ns[i]? = some n)
    (st : Stay (fun k => s.ownBlock = some k) W W2) (h1 : HRow W2 s (List.replicate n (mrk i))) (h2 : HRow W2 l (List.replicate (n + 70) (mrk i))) (hrel : ∀ b, l.ownBlock = some b → s.ownBlock = some b ∨ W.heap.size ≤ b)
    (m3 : W3.ownsRow 0 24 1 mv' (ms ++ [l]).length (ms ++ [l])) (st3 : Stay (fun k => mv.ownBlock = some k) W2 W3) (hnew : ∀ b, mv'.ownBlock = some b → mv.ownBlock = some b ∨ W2.heap.size ≤ b) : AQ w W3 ss ns lv mv' (ms ++ [l]) (i + 1) := by
  have hWw : w.heap.size ≤ W.heap.size := q.st.size
  obtain ⟨X, -, hX⟩ := q.left i s n (Nat.le_refl _) hs hn
  have l2 : W2.ownsRow 0 24 1 lv ss.length ss := row_kept q.lrow st (fun k hk e => rows_apart q.lrow hX hk e)
  have mr2 : W2.ownsRow 0 24 1 mv ms.length ms := row_kept q.mrow st (fun k hk e => rows_apart q.mrow hX hk e)
  have k3 : ∀ {u : Value} {Y : List En}, HRow W2 u Y → HRow W3 u Y := fun {u Y} h => row_kept h st3 (fun k hk e => rows_apart mr2 h e hk)
  refine ⟨by simp [q.ml], q.len, row_kept l2 st3 (fun k hk e => by have := q.lold k hk; have := q.mnew k e; omega), m3, fun b hb => (hnew b hb).elim (q.mnew b) (fun h => Nat.le_trans hWw (Nat.le_trans st.size h)), q.lold, q.sold, q.apart, fun j u m n' hu hm hn' => ?_, fun j u n' hj hu hn' => ?_, fun j u m b hu hm hb => ?_, ?_⟩
  · rcases Nat.lt_or_ge j ms.length with hlt | hge
    · rw [List.getElem?_append_left hlt] at hm
      obtain ⟨d1, d2⟩ := q.done j u m n' hu hm hn'
      have hji : j ≠ i := by rw [← q.ml]; omega
      refine ⟨k3 (row_kept d1 st (fun k hk e => hji (q.apart j i u s k hu hs hk e))), k3 (row_kept d2 st (fun k hk e => ?_))⟩
      rcases q.loc j u m k hu hm hk with h | h
      · exact hji (q.apart j i u s k hu hs h e)
      · have := q.sold i s k hs e; omega
    · rw [List.getElem?_append_right hge] at hm
      obtain ⟨q1, q2⟩ := List.getElem?_eq_some_iff.1 hm
      simp at q1 q2
      have hji : j = i := by rw [← q.ml]; omega
      subst hji
      rw [hs] at hu
      rw [hn] at hn'
      cases hu; cases hn'
      rw [← q2]
      exact ⟨k3 h1, k3 h2⟩
  · obtain ⟨Y, hY1, hY2⟩ := q.left j u n' (by omega) hu hn'
    exact ⟨Y, hY1, k3 (row_kept hY2 st (fun k hk e => by have := q.apart j i u s k hu hs hk e; omega))⟩
  · rcases Nat.lt_or_ge j ms.length with hlt | hge
    · rw [List.getElem?_append_left hlt] at hm
      exact q.loc j u m b hu hm hb
    · rw [List.getElem?_append_right hge] at hm
      obtain ⟨q1, q2⟩ := List.getElem?_eq_some_iff.1 hm
      simp at q1 q2
      have hji : j = i := by rw [← q.ml]; omega
      subst hji
      rw [hs] at hu
      cases hu
      rw [← q2] at hb
      exact (hrel b hb).imp id (fun h => Nat.le_trans hWw h)
  · refine (q.st.andThen st (fun k _ e => ⟨i, s, hs, e⟩)).andThen st3 (fun k hk e => ?_)
    have := q.mnew k e
    omega
def RM (w : World) (ss : List Value) (ns : List Nat) (lv : Value) (um ui : Value) (wr : World) : Prop := ∃ (i : Nat) (a : Option Addr) (c : Nat) (ms : List Value), um = .slice a i c ∧ ui = .int .i64 i ∧ i ≤ ss.length ∧ Hid (AQ w wr ss ns lv (.slice a i c) ms i)
def RMark (w1 : World) (s : Value) (n i : Nat) (u : Value) (wr : World) : Prop := ∃ (j : Nat) (X : List En), u = .int .i64 j ∧ j ≤ n ∧ Hid (X.length = n ∧ X.take j = List.replicate j (mrk i) ∧ HRow wr s X ∧ Stay (fun k => s.ownBlock = some k) w1 wr)
def RGrow (w1 : World) (s : Value) (n i : Nat) (ul u : Value) (wr : World) : Prop := ∃ (t : Nat) (a : Option Addr) (c : Nat), ul = .slice a (n + t) c ∧ u = .int .i64 t ∧ t ≤ 70 ∧ Hid (HRow wr s (List.replicate n (mrk i)) ∧ HRow wr (.slice a (n + t) c) (List.replicate (n + t) (mrk i)) ∧ Stay (fun k => s.ownBlock = some k) w1 wr ∧
  ((∃ g cap, s = .slice (some ⟨g, 0, none⟩) n cap ∧ Value.slice a (n + t) c = .slice (some ⟨g, 0, none⟩) (n + t) cap) ∨ ∀ b, (Value.slice a (n + t) c).ownBlock = some b → w1.heap.size ≤ b))
def RC (w1 : World) (NN : Nat) (u : Value) (wr : World) : Prop := ∃ i : Nat, u = .int .i64 i ∧ i ≤ NN ∧ Below w1.heap.size w1 wr
theorem stay_b {F : Nat → Prop} {a b c : World} (h : Stay F a b) (k : Below b.heap.size b c) : Stay F a c := h.andThen (Stay.below (F := fun _ => False) k) (fun _ _ e => e.elim)
set_option maxHeartbeats 4000000 in
set_option maxRecDepth 100000 in
theorem apart_any (lv : Value) (ss : List Value) (ns : List Nat) (w : World) (h : AP w lv ss ns) (hN : ss.length ≤ 1048576) (hn : ∀ n ∈ ns, n ≤ 1048576) :
    Calls Try.prog 11 #[lv] w fun e w' => e = .returned (.bool true) ∧ Stay (fun k => ∃ (j : Nat) (s : Value), ss[j]? = some s ∧ s.ownBlock = some k) w w' := by
  obtain ⟨a0, c0, hlv, -⟩ := slice_form h.row
  obtain ⟨NN, hNN⟩ : ∃ NN, NN = ss.length := ⟨_, rfl⟩
  rw [← hNN] at hlv hN
  have HH := Hid.mk (And.intro h (And.intro hn hNN))
  have Q0 : Hid (AQ w w ss ns lv (.slice none 0 0) [] 0) := ⟨rfl, h.len, h.row, ⟨rfl, .inl ⟨rfl, rfl⟩⟩, fun b hb => (by cases hb), fun b hb => row_lt h.row hb, fun j s b hs hb => by
    have hj : j < ns.length := by rw [h.len]; exact (List.getElem?_eq_some_iff.1 hs).1
    obtain ⟨X, -, hX⟩ := h.each j s _ hs (List.getElem?_eq_getElem hj)
    exact row_lt hX hb, h.apart, fun j s m n hs hm hn => by simp at hm, fun j s n _ hs hn => h.each j s n hs hn, fun j s m b hs hm => by simp at hm, .refl _ _⟩
  subst hlv
  clear h hn hNN
  go_enter Try.func11, Try.ntmps11
  go_wp2
  go_loopw [3, 4] (fun um ui wr => RM w ss ns (.slice a0 NN c0) um ui wr) (fun _ u _ => NN - (intOf u).toNat)
  case atStart => exact ⟨0, none, 0, [], rfl, rfl, Nat.zero_le _, Q0⟩
  case round =>
    clear Q0
    obtain ⟨i, am, cm, ms, rfl, rfl, hi, HQ⟩ := hrel
    obtain ⟨w1, rfl⟩ : ∃ w1, w1 = wr := ⟨_, rfl⟩
    by_cases hlt : i < NN
    · have i1 : (i : Int) < (NN : Int) := by omega
      have i2 : (0 : Int) ≤ (i : Int) := by omega
      have hil : i < ss.length := by have := HH.out.2.2; omega
      obtain ⟨s, hs⟩ : ∃ s, ss[i]? = some s := ⟨_, List.getElem?_eq_getElem hil⟩
      obtain ⟨n, hn⟩ : ∃ n, ns[i]? = some n := ⟨_, List.getElem?_eq_getElem (by rw [HQ.out.len]; exact hil)⟩
      have hnl : n ≤ 1048576 := HH.out.2.1 n (List.mem_of_getElem? hn)
      obtain ⟨X, hXn, hX⟩ := HQ.out.left i s n (Nat.le_refl _) hs hn
      obtain ⟨sa, sc, hsv, -⟩ := slice_form hX
      rw [hXn] at hsv
      have hw20 : IntKind.i64.wrap (20 + (i : Int)) = 20 + (i : Int) := by rw [IntKind.wrap_i64]; omega
      have hwi : IntKind.i64.wrap ((i : Int) + 1) = ((i + 1 : Nat) : Int) := by rw [IntKind.wrap_i64]; omega
      have hmc := fun W => mark_any (20 + (i : Int)) (by omega) (by omega) W
      simp only [enC, mkE] at hmc
      have hrow := HQ.out.lrow
      obtain ⟨g0, hg0⟩ : ∃ g0, a0 = some ⟨g0, 0, none⟩ := by
        rcases hrow.2 with ⟨e, e2⟩ | ⟨g, cap, cur, e, -⟩
        · omega
        · simp only [Value.slice.injEq] at e
          exact ⟨g, e.1⟩
      subst hg0
      have x0 : w1.cell? ⟨g0, i, none⟩ = some (.slice sa n sc) := by
        have h9 := HQ.out.lrow
        rw [← HH.out.2.2] at h9
        have := World.ownsRow.cellAt h9 i (by omega)
        rw [hs, hsv] at this
        exact this
      have HB : Hid (∀ b, s.ownBlock = some b → b < w1.heap.size) := fun b hb => row_lt hX hb
      have R0 : Hid (RMark w1 s n i (.int .i64 ((0 : Nat) : Int)) w1) := ⟨0, X, rfl, Nat.zero_le _, hXn, rfl, hX, Stay.refl _ _⟩
      have HS := Hid.mk (And.intro hs (And.intro hn hsv))
      clear hs hn hX hXn hrow
      go_wp2
      clear x0
      go_loopw [6] (fun u wr => RMark w1 s n i u wr) (fun u _ => n - (intOf u).toNat)
      case atStart => exact R0.out
      case round =>
        clear R0
        obtain ⟨j, Y, rfl, hj, HM⟩ := hrel
        by_cases hjn : j < n
        · have j1 : (j : Int) < (n : Int) := by omega
          have j2 : (0 : Int) ≤ (j : Int) := by omega
          have hjY : j < Y.length := by have := HM.out.1; omega
          obtain ⟨g, cap, e1, -⟩ := HRow.at' HM.out.2.2.1 j hjY
          have e2 := HS.out.2.2
          rw [e1] at e2
          simp only [Value.slice.injEq] at e2
          obtain ⟨rfl, -, rfl⟩ := e2
          have hgb : g < w1.heap.size := HB.out g (by rw [e1]; rfl)
          have hsv' := HS.out.2.2
          have hwj : IntKind.i64.wrap ((j : Int) + 1) = ((j + 1 : Nat) : Int) := by rw [IntKind.wrap_i64]; omega
          have HSV := Hid.mk hsv'
          clear e1 hsv'
          go_wp2_with fail
          refine (hmc _).mono ?_
          clear hmc
          rintro _ w7 ⟨rfl, b7⟩
          have hY7 := HRow.below HM.out.2.2.1 b7
          have st7 := stay_b HM.out.2.2.2 b7
          obtain ⟨g', cap', e1, y0, y1, y2, y3, y4, fz⟩ := HRow.at' hY7 j hjY
          rw [HSV.out] at e1
          simp only [Value.slice.injEq, Option.some.injEq, Addr.mk.injEq] at e1
          obtain ⟨⟨rfl, -, -⟩, -, -⟩ := e1
          generalize Y[j] = Yj at y0 y1 y2 y3 y4
          have f0 := fz (j * 5)
          have f1 := fz (j * 5 + 1)
          have f2 := fz (j * 5 + 2)
          have f3 := fz (j * 5 + 3)
          have f4 := fz (j * 5 + 4)
          have HN : Hid (RMark w1 s n i (.int .i64 ((j + 1 : Nat) : Int)) (put5 w7 g j (mrk i))) := by
            refine ⟨j + 1, Y.set j (mrk i), rfl, hjn, by rw [List.length_set]; exact HM.out.1, ?_, ?_, ?_⟩
            · rw [List.take_succ_eq_append_getElem (by rw [List.length_set]; exact hjY), List.take_set_of_le (Nat.le_refl _), HM.out.2.1, List.getElem_set_self, List.replicate_succ']
            · rw [HSV.out]
              exact set5 (by have := hY7; rw [HSV.out] at this; exact this) HM.out.1.symm j hjY (mrk i)
            · exact put5_to (F := fun k => s.ownBlock = some k) st7 (by rw [HSV.out]; rfl)
          simp only [put5, mrk, mkE] at HN
          clear fz HM hY7 st7 b7 HSV
          go_wp2
          exact ⟨HN.out, by simp only [intOf]; omega⟩
        · have j1 : ¬ (j : Int) < (n : Int) := by omega
          have hYr : Y = List.replicate n (mrk i) := by
            have h1 := HM.out.2.1
            rw [List.take_of_length_le (by have := HM.out.1; omega)] at h1
            rw [h1]; congr 1; omega
          have G0 : Hid (RGrow w1 s n i (.slice sa (n + 0) sc) (.int .i64 ((0 : Nat) : Int)) wr) := by
            refine ⟨0, sa, sc, rfl, rfl, by omega, by rw [← hYr]; exact HM.out.2.2.1, ?_, HM.out.2.2.2, ?_⟩
            · have h9 := HM.out.2.2.1
              rw [hYr, HS.out.2.2] at h9; exact h9
            · cases sa with
              | none => exact .inr (fun b hb => by cases hb)
              | some ad =>
                have h9 := HM.out.2.2.1
                rw [HS.out.2.2] at h9
                rcases h9.2 with ⟨e, _⟩ | ⟨g, cap, cur, e, -⟩
                · cases e
                · simp only [Value.slice.injEq] at e
                  obtain ⟨e3, -, rfl⟩ := e
                  exact .inl ⟨g, sc, by rw [HS.out.2.2, e3], by rw [e3]⟩
          clear HM hYr
          go_wp2
          clear j1
          go_loopw [5, 7] (fun ul u wr => RGrow w1 s n i ul u wr) (fun _ u _ => 70 - (intOf u).toNat)
          case atStart => exact G0.out
          case round =>
            clear G0
            obtain ⟨t, al, cl, rfl, rfl, ht, HG⟩ := hrel
            by_cases htl : t < 70
            · have t1 : (t : Int) < 70 := by omega
              have hwt : IntKind.i64.wrap ((t : Int) + 1) = ((t + 1 : Nat) : Int) := by rw [IntKind.wrap_i64]; omega
              obtain ⟨q1, hq1⟩ : ∃ q1, q1 = n + t := ⟨_, rfl⟩
              rw [← hq1]
              have HQ1 := Hid.mk hq1
              clear hq1
              go_wp2_with fail
              refine (hmc _).mono ?_
              clear hmc
              rintro _ w7 ⟨rfl, b7⟩
              have st7 := stay_b HG.out.2.2.1 b7
              obtain ⟨l', W', hap, hl', hs', hr', st'⟩ := grow_one w7 n t s (.slice al (n + t) cl) (mrk i) w1.heap.size st7.size (HRow.below HG.out.1 b7) (HRow.below HG.out.2.1 b7) HG.out.2.2.2 (fun b hb => by have := HB.out b hb; omega) (by omega)
              obtain ⟨a', c', e', -⟩ := slice_form hl'
              rw [List.length_replicate] at e'
              subst e'
              have hlB : ∀ k, (Value.slice al (n + t) cl).ownBlock = some k → s.ownBlock = some k ∨ w1.heap.size ≤ k := fun k hk => by
                rcases HG.out.2.2.2 with ⟨g, cap, e1, e2⟩ | h9
                · left; rw [e1]; rw [e2] at hk; exact hk
                · exact .inr (h9 k hk)
              have HN : Hid (RGrow w1 s n i (.slice a' (n + (t + 1)) c') (.int .i64 ((t + 1 : Nat) : Int)) W') := by
                refine ⟨t + 1, a', c', rfl, rfl, htl, hs', hl', ?_, hr'⟩
                refine st7.andThen st' (fun k hk e => ?_)
                rcases e with e | e
                · exact e
                · rcases hlB k e with h9 | h9
                  · exact h9
                  · omega
              obtain ⟨q2, hq2⟩ : ∃ q2, q2 = n + (t + 1) := ⟨_, rfl⟩
              rw [← HQ1.out] at hap
              rw [← hq2] at hap HN
              simp only [enC, mrk, mkE] at hap
              clear hq2 hlB st' hr' hs' hl' HG st7 b7
              go_wp2_with (at_builtin; refine wpList_append_eq rfl _ _ _ _ rfl _ _ _ _ rfl rfl hap ?_; clear hap)
              exact ⟨HN.out, by simp only [intOf]; omega⟩
            · have t1 : ¬ (t : Int) < 70 := by omega
              obtain rfl : t = 70 := by omega
              have hml := HQ.out.ml
              have hsX : ∃ X0 : List En, HRow w1 s X0 := by
                obtain ⟨X0, -, h0⟩ := HQ.out.left i s n (Nat.le_refl _) HS.out.1 HS.out.2.1
                exact ⟨X0, h0⟩
              have mr : wr.ownsRow 0 24 1 (.slice am i cm) ms.length ms := by
                obtain ⟨X0, h0⟩ := hsX
                exact row_kept HQ.out.mrow HG.out.2.2.1 (fun k hk e => rows_apart HQ.out.mrow h0 hk e)
              obtain ⟨a3, c3, W3, hap, m3, st3, hnew⟩ := more_app wr ms am cm (by rw [hml]; rw [hml] at mr; exact mr) (by omega) (.slice al (n + 70) cl) rfl
              rw [hml] at hap m3 st3 hnew
              have Q3 := HQ.out.step HS.out.1 HS.out.2.1 HG.out.2.2.1 HG.out.1 HG.out.2.1 (fun b hb => by
                rcases HG.out.2.2.2 with ⟨g, cap, e1, e2⟩ | h9
                · left; rw [e1]; rw [e2] at hb; exact hb
                · exact .inr (h9 b hb)) m3 st3 hnew
              have HN : Hid (RM w ss ns (.slice (some ⟨g0, 0, none⟩) NN c0) (.slice a3 (i + 1) c3) (.int .i64 ((i + 1 : Nat) : Int)) W3) := ⟨i + 1, a3, c3, _, rfl, rfl, hil, Q3⟩
              clear Q3 m3 st3 hnew mr hsX HG HQ hmc
              go_wp2_with (at_builtin; refine wpList_append_eq rfl _ _ _ _ rfl _ _ _ _ rfl rfl hap ?_; clear hap)
              exact ⟨HN.out, by simp only [intOf]; omega⟩
    · have i1 : ¬ (i : Int) < (NN : Int) := by omega
      obtain rfl : i = NN := by have := HH.out.2.2; omega
      clear hi hlt
      go_wp2
      clear i1
      go_loopw [8] (fun u wr => RC w1 i u wr) (fun u _ => i - (intOf u).toNat)
      case atStart => exact ⟨0, rfl, Nat.zero_le _, Below.refl _ _⟩
      case round =>
        obtain ⟨q, rfl, hq, bq⟩ := hrel
        by_cases hlt : q < i
        · have q1 : (q : Int) < (i : Int) := by omega
          have q2 : (0 : Int) ≤ (q : Int) := by omega
          have hql : q < ss.length := by have := HH.out.2.2; omega
          have hqm : q < ms.length := by have := HQ.out.ml; omega
          obtain ⟨s, hs⟩ : ∃ s, ss[q]? = some s := ⟨_, List.getElem?_eq_getElem hql⟩
          obtain ⟨m, hm⟩ : ∃ m, ms[q]? = some m := ⟨_, List.getElem?_eq_getElem hqm⟩
          obtain ⟨n, hn⟩ : ∃ n, ns[q]? = some n := ⟨_, List.getElem?_eq_getElem (by rw [HQ.out.len]; exact hql)⟩
          have hnl : n ≤ 1048576 := HH.out.2.1 n (List.mem_of_getElem? hn)
          obtain ⟨d1, d2⟩ := HQ.out.done q s m n hs hm hn
          obtain ⟨sa, sc, hsv, -⟩ := slice_form d1
          obtain ⟨ma, mc, hmv, -⟩ := slice_form d2
          rw [List.length_replicate] at hsv hmv
          subst hsv
          subst hmv
          have hw20 : IntKind.i64.wrap (20 + (q : Int)) = 20 + (q : Int) := by rw [IntKind.wrap_i64]; omega
          have hwi : IntKind.i64.wrap ((q : Int) + 1) = ((q + 1 : Nat) : Int) := by rw [IntKind.wrap_i64]; omega
          have hmc := fun W => mark_any (20 + (q : Int)) (by omega) (by omega) W
          simp only [enC, mkE] at hmc
          obtain ⟨W1, rfl⟩ : ∃ W1, W1 = wr := ⟨_, rfl⟩
          have bW := bq
          obtain ⟨g0, hg0⟩ : ∃ g0, a0 = some ⟨g0, 0, none⟩ := by
            rcases HQ.out.lrow.2 with ⟨e, e2⟩ | ⟨g, cap, cur, e, -⟩
            · omega
            · simp only [Value.slice.injEq] at e
              exact ⟨g, e.1⟩
          obtain ⟨gm, hgm⟩ : ∃ gm, am = some ⟨gm, 0, none⟩ := by
            rcases HQ.out.mrow.2 with ⟨e, e2⟩ | ⟨g, cap, cur, e, -⟩
            · omega
            · simp only [Value.slice.injEq] at e
              exact ⟨g, e.1⟩
          subst hg0
          subst hgm
          have x0 : W1.cell? ⟨g0, q, none⟩ = some (.slice sa n sc) := by
            have h9 := HQ.out.lrow
            rw [← HH.out.2.2] at h9
            have := World.ownsRow.cellAt h9 q (by omega)
            rw [hs] at this
            exact cell_lat bW this
          have x1 : W1.cell? ⟨gm, q, none⟩ = some (.slice ma (n + 70) mc) := by
            have h9 := HQ.out.mrow
            rw [HQ.out.ml] at h9
            have := World.ownsRow.cellAt h9 q (by omega)
            rw [hm] at this
            exact cell_lat bW this
          have D := Hid.mk (And.intro (HRow.below d1 bW) (HRow.below d2 bW))
          have HN : Hid (∀ W, Below W1.heap.size W1 W → RC w1 i (.int .i64 ((q + 1 : Nat) : Int)) W) := fun W hd => ⟨q + 1, rfl, hlt, bW.trans (hd.mono bW.size)⟩
          obtain ⟨mL, hmL⟩ : ∃ mL, mL = n + 70 := ⟨_, rfl⟩
          rw [← hmL] at x1
          have HmL := Hid.mk hmL
          have X01 := Hid.mk (And.intro x0 x1)
          clear hs hm hn d1 d2 bq bW hmL
          go_wp2
          clear x0 x1
          go_loopw [9] (fun u wr => RC W1 mL u wr) (fun u _ => mL - (intOf u).toNat)
          case atStart => exact ⟨0, rfl, Nat.zero_le _, Below.refl _ _⟩
          case round =>
            obtain ⟨j, rfl, hj, hd⟩ := hrel
            obtain ⟨w6, rfl⟩ : ∃ w6, w6 = wr := ⟨_, rfl⟩
            have x0 := cell_lat hd X01.out.1
            have x1 := cell_lat hd X01.out.2
            by_cases hjl : j < mL
            · have j1 : (j : Int) < (mL : Int) := by omega
              have j2 : (0 : Int) ≤ (j : Int) := by omega
              have hmle := HmL.out
              obtain ⟨bm, cm2, e1, u0, u1, u2, u3, u4, -⟩ := HRow.at' (HRow.below D.out.2 hd) j (by rw [List.length_replicate]; omega)
              simp only [Value.slice.injEq] at e1
              obtain ⟨rfl, -, rfl⟩ := e1
              rw [List.getElem_replicate] at u0 u1 u2 u3 u4
              have HR2 : Hid (∀ W, Below w6.heap.size w6 W → RC W1 mL (.int .i64 ((j + 1 : Nat) : Int)) W) := fun W hW => ⟨j + 1, rfl, hjl, hd.trans (hW.mono hd.size)⟩
              have hwj : IntKind.i64.wrap ((j : Int) + 1) = ((j + 1 : Nat) : Int) := by rw [IntKind.wrap_i64]; omega
              simp only [mrk, mkE] at u0 u1 u2 u3 u4
              by_cases hjn : j < n
              · have j3 : (j : Int) < (n : Int) := by omega
                obtain ⟨bs, cs2, e1, v0, v1, v2, v3, v4, -⟩ := HRow.at' (HRow.below D.out.1 hd) j (by rw [List.length_replicate]; omega)
                simp only [Value.slice.injEq] at e1
                obtain ⟨rfl, -, rfl⟩ := e1
                rw [List.getElem_replicate] at v0 v1 v2 v3 v4
                simp only [mrk, mkE] at v0 v1 v2 v3 v4
                clear hmle HmL D HN hd X01
                go_wp2
                go_region_held (fun w' => Below w6.heap.size w6 w' ∧ w'.cell? ⟨g0, q, none⟩ = some (.slice (some ⟨bs, 0, none⟩) n sc) ∧ w'.cell? ⟨gm, q, none⟩ = some (.slice (some ⟨bm, 0, none⟩) mL mc) ∧ w'.cell? ⟨bm, j * 5, none⟩ = some (.int .i64 (-(20 + (q : Int)))) ∧ w'.cell? ⟨bm, j * 5 + 1, none⟩ = some (.string ⟨#[109, 97, 114, 107]⟩) ∧ w'.cell? ⟨bm, j * 5 + 2, none⟩ = some (.int .i64 (-(20 + (q : Int)))) ∧ w'.cell? ⟨bm, j * 5 + 3, none⟩ = some (.int .i64 (-(20 + (q : Int)))) ∧ w'.cell? ⟨bm, j * 5 + 4, none⟩ = some (.bool false) ∧ w'.cell? ⟨bs, j * 5, none⟩ = some (.int .i64 (-(20 + (q : Int)))) ∧ w'.cell? ⟨bs, j * 5 + 1, none⟩ = some (.string ⟨#[109, 97, 114, 107]⟩) ∧ w'.cell? ⟨bs, j * 5 + 2, none⟩ = some (.int .i64 (-(20 + (q : Int)))) ∧ w'.cell? ⟨bs, j * 5 + 3, none⟩ = some (.int .i64 (-(20 + (q : Int)))) ∧ w'.cell? ⟨bs, j * 5 + 4, none⟩ = some (.bool false))
                  ((refine (fun hb => ⟨hb, cell_lat hb x0, cell_lat hb x1, cell_lat hb u0, cell_lat hb u1, cell_lat hb u2, cell_lat hb u3, cell_lat hb u4, cell_lat hb v0, cell_lat hb v1, cell_lat hb v2, cell_lat hb v3, cell_lat hb v4⟩) ?_; first | exact bc3 | exact bc2 | exact b_drew w6))
                  ((first | (go_at_call 12; refine (hmc _).mono ?_; rintro _ w9 ⟨rfl, b9⟩; have bc3 : Below w6.heap.size w6 w9 := chain bc2 b9 (Nat.le_refl _)) | (go_at_call 12; refine (hmc _).mono ?_; rintro _ w8 ⟨rfl, b8⟩; have bc2 : Below w6.heap.size w6 w8 := below_d b8)))
                all_goals
                  have HR3 := Hid.mk (HR2.out _ bc3)
                  clear bc2 bc3 b8 b9 HR2 hmc
                  go_wp2
                  exact ⟨HR3.out, by simp only [intOf]; omega⟩
              · have j3 : ¬ (j : Int) < (n : Int) := by omega
                have j4 : ¬ j < n := hjn
                clear hmle HmL D HN hd X01
                go_wp2
                refine wp_region_held_drew (S := (fun w' => Below w6.heap.size w6 w' ∧ w'.cell? ⟨g0, q, none⟩ = some (.slice sa n sc) ∧ w'.cell? ⟨gm, q, none⟩ = some (.slice (some ⟨bm, 0, none⟩) mL mc) ∧ w'.cell? ⟨bm, j * 5, none⟩ = some (.int .i64 (-(20 + (q : Int)))) ∧ w'.cell? ⟨bm, j * 5 + 1, none⟩ = some (.string ⟨#[109, 97, 114, 107]⟩) ∧ w'.cell? ⟨bm, j * 5 + 2, none⟩ = some (.int .i64 (-(20 + (q : Int)))) ∧ w'.cell? ⟨bm, j * 5 + 3, none⟩ = some (.int .i64 (-(20 + (q : Int)))) ∧ w'.cell? ⟨bm, j * 5 + 4, none⟩ = some (.bool false))) (by kernel_rfl) ?_ (fun hHeld => ?_)
                · (refine (fun hb => ⟨hb, cell_lat hb x0, cell_lat hb x1, cell_lat hb u0, cell_lat hb u1, cell_lat hb u2, cell_lat hb u3, cell_lat hb u4⟩) ?_; first | exact bc2 | exact b_drew w6)
                refine wpAnyH_take (i := 0) (oi := { dst := some 61, op := Op.move (Operand.tmp 3), type := 22, pos := "law.go:82", after := #[], guard := none }) (v := ?va0) rfl (by kernel_rfl) (by kernel_rfl) (by kernel_rfl) (fun _ _ _ h => h) (Or.inl ⟨by rfl, ?ha0⟩) (by assumption) ?ra0
                case ha0 => (intro w0 hSw; (try dsimp only at hSw); go_simp; try (with_reducible rfl))
                simp only [Act.put, List.setIfInBounds_toArray, List.set_cons_zero, List.set_cons_succ]
                refine wpAnyH_take (i := 1) (oi := { dst := some 62, op := Op.move (Operand.tmp 8), type := 3, pos := "law.go:82", after := #[], guard := none }) (v := ?va1) rfl (by kernel_rfl) (by kernel_rfl) (by kernel_rfl) (fun _ _ _ h => h) (Or.inl ⟨by rfl, ?ha1⟩) (by assumption) ?ra1
                case ha1 => (intro w0 hSw; (try dsimp only at hSw); go_simp; try (with_reducible rfl))
                simp only [Act.put, List.setIfInBounds_toArray, List.set_cons_zero, List.set_cons_succ]
                refine wpAnyH_take (i := 2) (oi := { dst := some 63, op := Op.indexAddr 22 (Operand.tmp 61) (Operand.tmp 62), type := 0, pos := "law.go:82", after := #[{ on := 0, ground := Ground.data }, { on := 1, ground := Ground.data }], guard := none }) (v := ?va2) rfl (by kernel_rfl) (by kernel_rfl) (by kernel_rfl) (fun _ _ _ h => h) (Or.inl ⟨by rfl, ?ha2⟩) (by assumption) ?ra2
                case ha2 => (intro w0 hSw; (try dsimp only at hSw); go_simp; try (with_reducible rfl))
                simp only [Act.put, List.setIfInBounds_toArray, List.set_cons_zero, List.set_cons_succ]
                refine wpAnyH_take (i := 3) (oi := { dst := some 64, op := Op.load 24 (Operand.tmp 63), type := 24, pos := "law.go:82", after := #[{ on := 2, ground := Ground.data }], guard := none }) (v := ?va3) rfl (by kernel_rfl) (by kernel_rfl) (by kernel_rfl) (fun _ _ _ h => h) (Or.inl ⟨by rfl, ?ha3⟩) (by assumption) ?ra3
                case ha3 => (intro w0 hSw; (try dsimp only at hSw); go_simp; try (with_reducible rfl))
                simp only [Act.put, List.setIfInBounds_toArray, List.set_cons_zero, List.set_cons_succ]
                refine wpAnyH_take (i := 4) (oi := { dst := some 65, op := Op.move (Operand.tmp 9), type := 3, pos := "law.go:82", after := #[], guard := none }) (v := ?va4) rfl (by kernel_rfl) (by kernel_rfl) (by kernel_rfl) (fun _ _ _ h => h) (Or.inl ⟨by rfl, ?ha4⟩) (by assumption) ?ra4
                case ha4 => (intro w0 hSw; (try dsimp only at hSw); go_simp; try (with_reducible rfl))
                simp only [Act.put, List.setIfInBounds_toArray, List.set_cons_zero, List.set_cons_succ]
                refine wpAnyH_take (i := 5) (oi := { dst := some 66, op := Op.indexAddr 24 (Operand.tmp 64) (Operand.tmp 65), type := 0, pos := "law.go:82", after := #[{ on := 3, ground := Ground.data }, { on := 4, ground := Ground.data }], guard := none }) (v := ?va5) rfl (by kernel_rfl) (by kernel_rfl) (by kernel_rfl) (fun _ _ _ h => h) (Or.inl ⟨by rfl, ?ha5⟩) (by assumption) ?ra5
                case ha5 => (intro w0 hSw; (try dsimp only at hSw); go_simp; try (with_reducible rfl))
                simp only [Act.put, List.setIfInBounds_toArray, List.set_cons_zero, List.set_cons_succ]
                refine wpAnyH_take (i := 6) (oi := { dst := some 67, op := Op.load 36 (Operand.tmp 66), type := 36, pos := "law.go:82", after := #[{ on := 5, ground := Ground.data }], guard := none }) (v := ?va6) rfl (by kernel_rfl) (by kernel_rfl) (by kernel_rfl) (fun _ _ _ h => h) (Or.inl ⟨by rfl, ?ha6⟩) (by assumption) ?ra6
                case ha6 => (intro w0 hSw; (try dsimp only at hSw); go_simp; try (with_reducible rfl))
                simp only [Act.put, List.setIfInBounds_toArray, List.set_cons_zero, List.set_cons_succ]
                refine wpAnyH_take (i := 7) (oi := { dst := some 68, op := Op.move (Operand.tmp 8), type := 3, pos := "law.go:82", after := #[], guard := none }) (v := ?va7) rfl (by kernel_rfl) (by kernel_rfl) (by kernel_rfl) (fun _ _ _ h => h) (Or.inl ⟨by rfl, ?ha7⟩) (by assumption) ?ra7
                case ha7 => (intro w0 hSw; (try dsimp only at hSw); go_simp; try (with_reducible rfl))
                simp only [Act.put, List.setIfInBounds_toArray, List.set_cons_zero, List.set_cons_succ]
                refine wpAnyH_take (i := 8) (oi := { dst := some 69, op := Op.binOp BinOp.add 3 (Operand.const (Value.int IntKind.i64 20)) (Operand.tmp 68) 3, type := 3, pos := "law.go:82", after := #[{ on := 7, ground := Ground.data }], guard := none }) (v := ?va8) rfl (by kernel_rfl) (by kernel_rfl) (by kernel_rfl) (fun _ _ _ h => h) (Or.inl ⟨by rfl, ?ha8⟩) (by assumption) ?ra8
                case ha8 => (intro w0 hSw; (try dsimp only at hSw); go_simp; try (with_reducible rfl))
                simp only [Act.put, List.setIfInBounds_toArray, List.set_cons_zero, List.set_cons_succ]
                refine wpAnyH_ready (rs := [9]) (by kernel_rfl) (by simp) ?_
                refine AllReadyH.cons rfl (fun K hK => ?_) AllReadyH.nil
                go_simp
                go_wp2_with (go_at_call 12; refine (hmc _).mono ?_; rintro _ w8 ⟨rfl, b8⟩; have bc2 : Below w6.heap.size w6 w8 := below_d b8)
                refine hK.out _ _ ?_ (fun hHeld => ?_)
                · (refine (fun hb => ⟨hb, cell_lat hb x0, cell_lat hb x1, cell_lat hb u0, cell_lat hb u1, cell_lat hb u2, cell_lat hb u3, cell_lat hb u4⟩) ?_; first | exact bc2 | exact b_drew w6)
                clear hK K
                refine wpAnyH_take (i := 10) (oi := { dst := some 71, op := Op.binOp BinOp.neq 36 (Operand.tmp 67) (Operand.tmp 70) 36, type := 4, pos := "law.go:82", after := #[{ on := 6, ground := Ground.data }, { on := 9, ground := Ground.data }], guard := none }) (v := ?va10) rfl (by kernel_rfl) (by kernel_rfl) (by kernel_rfl) (fun _ _ _ h => h) (Or.inl ⟨by rfl, ?ha10⟩) (by assumption) ?ra10
                case ha10 => (intro w0 hSw; (try dsimp only at hSw); go_simp; try (with_reducible rfl))
                simp only [Act.put, List.setIfInBounds_toArray, List.set_cons_zero, List.set_cons_succ]
                refine wpAnyH_take (i := 11) (oi := { dst := some 72, op := Op.move (Operand.tmp 71), type := 4, pos := "law.go:82", after := #[{ on := 10, ground := Ground.data }, { on := 9, ground := Ground.chain }], guard := none }) (v := ?va11) rfl (by kernel_rfl) (by kernel_rfl) (by kernel_rfl) (fun _ _ _ h => h) (Or.inl ⟨by rfl, ?ha11⟩) (by assumption) ?ra11
                case ha11 => (intro w0 hSw; (try dsimp only at hSw); go_simp; try (with_reducible rfl))
                simp only [Act.put, List.setIfInBounds_toArray, List.set_cons_zero, List.set_cons_succ]
                refine wpAnyH_take (i := 12) (oi := { dst := some 73, op := Op.move (Operand.tmp 9), type := 3, pos := "law.go:82", after := #[{ on := 11, ground := Ground.guard }], guard := some (11, false) }) (v := ?va12) rfl (by kernel_rfl) (by kernel_rfl) (by kernel_rfl) (fun _ _ _ h => h) (Or.inl ⟨by rfl, ?ha12⟩) (by assumption) ?ra12
                case ha12 => (intro w0 hSw; (try dsimp only at hSw); go_simp; try (with_reducible rfl))
                simp only [Act.put, List.setIfInBounds_toArray, List.set_cons_zero, List.set_cons_succ]
                refine wpAnyH_take (i := 13) (oi := { dst := some 74, op := Op.move (Operand.tmp 0), type := 22, pos := "law.go:82", after := #[{ on := 11, ground := Ground.guard }], guard := some (11, false) }) (v := ?va13) rfl (by kernel_rfl) (by kernel_rfl) (by kernel_rfl) (fun _ _ _ h => h) (Or.inl ⟨by rfl, ?ha13⟩) (by assumption) ?ra13
                case ha13 => (intro w0 hSw; (try dsimp only at hSw); go_simp; try (with_reducible rfl))
                simp only [Act.put, List.setIfInBounds_toArray, List.set_cons_zero, List.set_cons_succ]
                refine wpAnyH_take (i := 14) (oi := { dst := some 75, op := Op.move (Operand.tmp 8), type := 3, pos := "law.go:82", after := #[{ on := 11, ground := Ground.guard }], guard := some (11, false) }) (v := ?va14) rfl (by kernel_rfl) (by kernel_rfl) (by kernel_rfl) (fun _ _ _ h => h) (Or.inl ⟨by rfl, ?ha14⟩) (by assumption) ?ra14
                case ha14 => (intro w0 hSw; (try dsimp only at hSw); go_simp; try (with_reducible rfl))
                simp only [Act.put, List.setIfInBounds_toArray, List.set_cons_zero, List.set_cons_succ]
                refine wpAnyH_take (i := 15) (oi := { dst := some 76, op := Op.indexAddr 22 (Operand.tmp 74) (Operand.tmp 75), type := 0, pos := "law.go:82", after := #[{ on := 13, ground := Ground.data }, { on := 14, ground := Ground.data }, { on := 11, ground := Ground.guard }], guard := some (11, false) }) (v := ?va15) rfl (by kernel_rfl) (by kernel_rfl) (by kernel_rfl) (fun _ _ _ h => h) (Or.inl ⟨by rfl, ?ha15⟩) (by assumption) ?ra15
                case ha15 => (intro w0 hSw; (try dsimp only at hSw); go_simp; try (with_reducible rfl))
                simp only [Act.put, List.setIfInBounds_toArray, List.set_cons_zero, List.set_cons_succ]
                refine wpAnyH_take (i := 16) (oi := { dst := some 77, op := Op.load 24 (Operand.tmp 76), type := 24, pos := "law.go:82", after := #[{ on := 15, ground := Ground.data }, { on := 11, ground := Ground.guard }], guard := some (11, false) }) (v := ?va16) rfl (by kernel_rfl) (by kernel_rfl) (by kernel_rfl) (fun _ _ _ h => h) (Or.inl ⟨by rfl, ?ha16⟩) (by assumption) ?ra16
                case ha16 => (intro w0 hSw; (try dsimp only at hSw); go_simp; try (with_reducible rfl))
                simp only [Act.put, List.setIfInBounds_toArray, List.set_cons_zero, List.set_cons_succ]
                refine wpAnyH_take (i := 17) (oi := { dst := some 78, op := Op.call { callee := Callee.builtin Builtin.len, args := #[Operand.tmp 77], argTypes := #[24] }, type := 3, pos := "law.go:82", after := #[{ on := 16, ground := Ground.data }, { on := 11, ground := Ground.guard }], guard := some (11, false) }) (v := ?va17) rfl (by kernel_rfl) (by kernel_rfl) (by kernel_rfl) (fun _ _ _ h => h) (Or.inl ⟨by rfl, ?ha17⟩) (by assumption) ?ra17
                case ha17 => (intro w0 hSw; (try dsimp only at hSw); go_simp; try (with_reducible rfl))
                simp only [Act.put, List.setIfInBounds_toArray, List.set_cons_zero, List.set_cons_succ]
                refine wpAnyH_take (i := 18) (oi := { dst := some 79, op := Op.binOp BinOp.lss 3 (Operand.tmp 73) (Operand.tmp 78) 3, type := 4, pos := "law.go:82", after := #[{ on := 12, ground := Ground.data }, { on := 17, ground := Ground.data }, { on := 11, ground := Ground.guard }], guard := some (11, false) }) (v := ?va18) rfl (by kernel_rfl) (by kernel_rfl) (by kernel_rfl) (fun _ _ _ h => h) (Or.inl ⟨by rfl, ?ha18⟩) (by assumption) ?ra18
                case ha18 => (intro w0 hSw; (try dsimp only at hSw); go_simp; try (with_reducible rfl))
                simp only [Act.put, List.setIfInBounds_toArray, List.set_cons_zero, List.set_cons_succ]
                refine wpAnyH_take (i := 19) (oi := { dst := some 80, op := Op.move (Operand.tmp 79), type := 4, pos := "law.go:82", after := #[{ on := 18, ground := Ground.data }, { on := 11, ground := Ground.chain }, { on := 11, ground := Ground.guard }], guard := some (11, false) }) (v := ?va19) rfl (by kernel_rfl) (by kernel_rfl) (by kernel_rfl) (fun _ _ _ h => h) (Or.inl ⟨by rfl, ?ha19⟩) (by assumption) ?ra19
                case ha19 => (intro w0 hSw; (try dsimp only at hSw); go_simp; try (with_reducible rfl))
                simp only [Act.put, List.setIfInBounds_toArray, List.set_cons_zero, List.set_cons_succ]
                refine wpAnyH_take (i := 20) (oi := { dst := some 81, op := Op.move (Operand.tmp 0), type := 22, pos := "law.go:82", after := #[{ on := 19, ground := Ground.guard }], guard := some (19, true) }) rfl (by kernel_rfl) (by kernel_rfl) (by kernel_rfl) (fun _ _ _ h => h) (Or.inr ⟨by rfl, rfl⟩) (by assumption) ?_
                simp only [Act.put, List.setIfInBounds_toArray, List.set_cons_zero, List.set_cons_succ]
                refine wpAnyH_take (i := 21) (oi := { dst := some 82, op := Op.move (Operand.tmp 8), type := 3, pos := "law.go:82", after := #[{ on := 19, ground := Ground.guard }], guard := some (19, true) }) rfl (by kernel_rfl) (by kernel_rfl) (by kernel_rfl) (fun _ _ _ h => h) (Or.inr ⟨by rfl, rfl⟩) (by assumption) ?_
                simp only [Act.put, List.setIfInBounds_toArray, List.set_cons_zero, List.set_cons_succ]
                refine wpAnyH_take (i := 22) (oi := { dst := some 83, op := Op.indexAddr 22 (Operand.tmp 81) (Operand.tmp 82), type := 0, pos := "law.go:82", after := #[{ on := 20, ground := Ground.data }, { on := 21, ground := Ground.data }, { on := 19, ground := Ground.guard }], guard := some (19, true) }) rfl (by kernel_rfl) (by kernel_rfl) (by kernel_rfl) (fun _ _ _ h => h) (Or.inr ⟨by rfl, rfl⟩) (by assumption) ?_
                simp only [Act.put, List.setIfInBounds_toArray, List.set_cons_zero, List.set_cons_succ]
                refine wpAnyH_take (i := 23) (oi := { dst := some 84, op := Op.load 24 (Operand.tmp 83), type := 24, pos := "law.go:82", after := #[{ on := 22, ground := Ground.data }, { on := 19, ground := Ground.guard }], guard := some (19, true) }) rfl (by kernel_rfl) (by kernel_rfl) (by kernel_rfl) (fun _ _ _ h => h) (Or.inr ⟨by rfl, rfl⟩) (by assumption) ?_
                simp only [Act.put, List.setIfInBounds_toArray, List.set_cons_zero, List.set_cons_succ]
                refine wpAnyH_take (i := 24) (oi := { dst := some 85, op := Op.move (Operand.tmp 9), type := 3, pos := "law.go:82", after := #[{ on := 19, ground := Ground.guard }], guard := some (19, true) }) rfl (by kernel_rfl) (by kernel_rfl) (by kernel_rfl) (fun _ _ _ h => h) (Or.inr ⟨by rfl, rfl⟩) (by assumption) ?_
                simp only [Act.put, List.setIfInBounds_toArray, List.set_cons_zero, List.set_cons_succ]
                refine wpAnyH_take (i := 25) (oi := { dst := some 86, op := Op.indexAddr 24 (Operand.tmp 84) (Operand.tmp 85), type := 0, pos := "law.go:82", after := #[{ on := 23, ground := Ground.data }, { on := 24, ground := Ground.data }, { on := 19, ground := Ground.guard }], guard := some (19, true) }) rfl (by kernel_rfl) (by kernel_rfl) (by kernel_rfl) (fun _ _ _ h => h) (Or.inr ⟨by rfl, rfl⟩) (by assumption) ?_
                simp only [Act.put, List.setIfInBounds_toArray, List.set_cons_zero, List.set_cons_succ]
                refine wpAnyH_take (i := 26) (oi := { dst := some 87, op := Op.load 36 (Operand.tmp 86), type := 36, pos := "law.go:82", after := #[{ on := 25, ground := Ground.data }, { on := 19, ground := Ground.guard }], guard := some (19, true) }) rfl (by kernel_rfl) (by kernel_rfl) (by kernel_rfl) (fun _ _ _ h => h) (Or.inr ⟨by rfl, rfl⟩) (by assumption) ?_
                simp only [Act.put, List.setIfInBounds_toArray, List.set_cons_zero, List.set_cons_succ]
                refine wpAnyH_take (i := 27) (oi := { dst := some 88, op := Op.move (Operand.tmp 8), type := 3, pos := "law.go:82", after := #[{ on := 19, ground := Ground.guard }], guard := some (19, true) }) rfl (by kernel_rfl) (by kernel_rfl) (by kernel_rfl) (fun _ _ _ h => h) (Or.inr ⟨by rfl, rfl⟩) (by assumption) ?_
                simp only [Act.put, List.setIfInBounds_toArray, List.set_cons_zero, List.set_cons_succ]
                refine wpAnyH_take (i := 28) (oi := { dst := some 89, op := Op.binOp BinOp.add 3 (Operand.const (Value.int IntKind.i64 20)) (Operand.tmp 88) 3, type := 3, pos := "law.go:82", after := #[{ on := 27, ground := Ground.data }, { on := 19, ground := Ground.guard }], guard := some (19, true) }) rfl (by kernel_rfl) (by kernel_rfl) (by kernel_rfl) (fun _ _ _ h => h) (Or.inr ⟨by rfl, rfl⟩) (by assumption) ?_
                simp only [Act.put, List.setIfInBounds_toArray, List.set_cons_zero, List.set_cons_succ]
                refine wpAnyH_take (i := 29) (oi := { dst := some 90, op := Op.call { callee := Callee.value (Operand.func 12), args := #[Operand.tmp 89], argTypes := #[3] }, type := 36, pos := "law.go:82", after := #[{ on := 28, ground := Ground.data }, { on := 19, ground := Ground.chain }, { on := 19, ground := Ground.guard }], guard := some (19, true) }) rfl (by kernel_rfl) (by kernel_rfl) (by kernel_rfl) (fun _ _ _ h => h) (Or.inr ⟨by rfl, rfl⟩) (by assumption) ?_
                simp only [Act.put, List.setIfInBounds_toArray, List.set_cons_zero, List.set_cons_succ]
                refine wpAnyH_take (i := 30) (oi := { dst := some 91, op := Op.binOp BinOp.neq 36 (Operand.tmp 87) (Operand.tmp 90) 36, type := 4, pos := "law.go:82", after := #[{ on := 26, ground := Ground.data }, { on := 29, ground := Ground.data }, { on := 19, ground := Ground.guard }], guard := some (19, true) }) rfl (by kernel_rfl) (by kernel_rfl) (by kernel_rfl) (fun _ _ _ h => h) (Or.inr ⟨by rfl, rfl⟩) (by assumption) ?_
                simp only [Act.put, List.setIfInBounds_toArray, List.set_cons_zero, List.set_cons_succ]
                refine wpAnyH_take (i := 31) (oi := { dst := some 92, op := Op.pick (Operand.tmp 80) (Operand.tmp 91) (Operand.const (Value.bool false)), type := 4, pos := "law.go:82", after := #[{ on := 19, ground := Ground.data }, { on := 30, ground := Ground.data }, { on := 11, ground := Ground.guard }], guard := some (11, false) }) (v := ?va31) rfl (by kernel_rfl) (by kernel_rfl) (by kernel_rfl) (fun _ _ _ h => h) (Or.inl ⟨by rfl, ?ha31⟩) (by assumption) ?ra31
                case ha31 => (intro w0 hSw; (try dsimp only at hSw); go_simp; try (with_reducible rfl))
                simp only [Act.put, List.setIfInBounds_toArray, List.set_cons_zero, List.set_cons_succ]
                refine wpAnyH_take (i := 32) (oi := { dst := some 93, op := Op.pick (Operand.tmp 72) (Operand.const (Value.bool true)) (Operand.tmp 92), type := 4, pos := "law.go:82", after := #[{ on := 11, ground := Ground.data }, { on := 31, ground := Ground.data }], guard := none }) (v := ?va32) rfl (by kernel_rfl) (by kernel_rfl) (by kernel_rfl) (fun _ _ _ h => h) (Or.inl ⟨by rfl, ?ha32⟩) (by assumption) ?ra32
                case ha32 => (intro w0 hSw; (try dsimp only at hSw); go_simp; try (with_reducible rfl))
                simp only [Act.put, List.setIfInBounds_toArray, List.set_cons_zero, List.set_cons_succ]
                refine wpAnyH_done (by kernel_rfl) ?_ _
                have HR3 := Hid.mk (HR2.out _ bc2)
                clear bc2 b8 HR2 hmc
                go_wp2
                exact ⟨HR3.out, by simp only [intOf]; omega⟩
            · have j1 : ¬ (j : Int) < (mL : Int) := by omega
              have HE := Hid.mk (HN.out _ hd)
              clear HN hd X01 hmc D
              go_wp2
              exact ⟨HE.out, by simp only [intOf]; omega⟩
        · have q1 : ¬ (q : Int) < (i : Int) := by omega
          have HE : Hid (Stay (fun k => ∃ (j : Nat) (s : Value), ss[j]? = some s ∧ s.ownBlock = some k) w wr) := stay_b HQ.out.st bq
          clear HQ HH bq
          go_wp2
          go_ret
          exact ⟨rfl, HE.out⟩
end Go.Proofs.Ytbkbnhdeleoibaa
