/-
  DERIVED. The laws' apart.
-/
import Derived.Test.YtmdmjjobhkpojaaQSums
set_option linter.unusedVariables false
set_option linter.unusedSimpArgs false
namespace Go.Proofs.Ytmdmjjobhkpojaa
open Go.RowKit
abbrev EC : El (Int × Int) := ⟨30, 23, 43, 2, 16, .agg #[.int .i64 0, .int .i64 0], fun x => [.int .i64 x.1, .int .i64 x.2]⟩
theorem okC : EC.Ok Try.prog := ⟨fun _ => rfl, fun x u hu => by
  simp at hu
  rcases hu with rfl | rfl <;> rfl, by decide, rfl, by decide, by kernel_rfl, Try.underlying23⟩
theorem okC2 : EC.Ok2 Try.prog := ⟨by kernel_rfl, Try.underlying43, by decide⟩
theorem chRow {W : World} {v : Value} {X : List (Int × Int)} (h : EC.Row W v X) (i : Nat) (hi : i < X.length) : ∃ g cap, v = .slice (some ⟨g, 0, none⟩) X.length cap ∧ W.cell? ⟨g, i * 2, none⟩ = some (.int .i64 X[i].1) ∧ W.cell? ⟨g, i * 2 + 1, none⟩ = some (.int .i64 X[i].2) ∧ ∀ j, W.frozen? ⟨g, j, none⟩ = false := by
  obtain ⟨g, cap, e, h1, h2⟩ := El.cells okC h i hi
  exact ⟨g, cap, e, h1 0 _ rfl, h1 1 _ rfl, h2⟩
def put2 (W : World) (g i : Nat) (x : Int × Int) : World := (W.setCell ⟨g, i * 2, none⟩ (.int .i64 x.1)).setCell ⟨g, i * 2 + 1, none⟩ (.int .i64 x.2)
theorem chSet {W : World} {g cap n : Nat} {X : List (Int × Int)} (h : EC.Row W (.slice (some ⟨g, 0, none⟩) n cap) X) (hn : n = X.length) (i : Nat) (hi : i < X.length) (x : Int × Int) : EC.Row (put2 W g i x) (.slice (some ⟨g, 0, none⟩) n cap) (X.set i x) := El.set okC h hn i hi x
set_option maxHeartbeats 1000000 in
theorem z_neq (a b c d : Int) (W : World) : (binOp .neq 30 (.agg #[.int .i64 a, .int .i64 b]) (.agg #[.int .i64 c, .int .i64 d])).run Try.prog W = .ok (.bool (!((a == c) && (b == d)))) W := by
  by_cases h1 : a = c
  · by_cases h2 : b = d
    · simp [go_sem, Try.underlying30, Try.underlying3, h1, h2]
    · simp [go_sem, Try.underlying30, Try.underlying3, h1, h2]
  · simp [go_sem, Try.underlying30, Try.underlying3, h1]
def apartCM (i : Nat) : Int × Int := (-20 - (i : Int), 77)
def apartCR (w : World) (ss : List Value) (ns : List Nat) (lv : Value) (um ui : Value) (wr : World) : Prop := ∃ (i : Nat) (a : Option Addr) (c : Nat) (ms : List Value), um = .slice a i c ∧ ui = .int .i64 i ∧ i ≤ ss.length ∧ Hid (EC.AQ apartCM w wr ss ns lv (.slice a i c) ms i)
def apartCK (w1 : World) (s : Value) (n i : Nat) (bx : Nat) (u : Value) (wr : World) : Prop := ∃ (j : Nat) (X : List (Int × Int)), u = .int .i64 j ∧ j ≤ n ∧ Hid (X.length = n ∧ X.take j = List.replicate j (apartCM i) ∧ EC.Row wr s X ∧ wr.heap[bx]? = some (.cells (EC.f (apartCM i)).toArray 30 (0, 0)) ∧ Stay (fun k => s.ownBlock = some k) w1 wr)
def apartCG (w1 : World) (s : Value) (n i : Nat) (bx : Nat) (ul u : Value) (wr : World) : Prop := ∃ (t : Nat) (a : Option Addr) (c : Nat), ul = .slice a (n + t) c ∧ u = .int .i64 t ∧ t ≤ 70 ∧ Hid (EC.Row wr s (List.replicate n (apartCM i)) ∧ EC.Row wr (.slice a (n + t) c) (List.replicate (n + t) (apartCM i)) ∧ wr.heap[bx]? = some (.cells (EC.f (apartCM i)).toArray 30 (0, 0)) ∧ Stay (fun k => s.ownBlock = some k) w1 wr ∧ w1.heap.size + 1 ≤ wr.heap.size ∧
  ((∃ g cap, s = .slice (some ⟨g, 0, none⟩) n cap ∧ Value.slice a (n + t) c = .slice (some ⟨g, 0, none⟩) (n + t) cap) ∨ ∀ b, (Value.slice a (n + t) c).ownBlock = some b → w1.heap.size + 1 ≤ b))
def apartCC (w1 : World) (NN : Nat) (u : Value) (wr : World) : Prop := ∃ i : Nat, u = .int .i64 i ∧ i ≤ NN ∧ Below w1.heap.size w1 wr
def apartCD (W1 : World) (m : Nat) (u : Value) (wr : World) : Prop := ∃ j : Nat, u = .int .i64 j ∧ j ≤ m ∧ Drew W1 wr
set_option maxHeartbeats 4000000 in
set_option maxRecDepth 100000 in
theorem apartC_any (lv : Value) (ss : List Value) (ns : List Nat) (w : World) (h : EC.AP w lv ss ns) (hN : ss.length ≤ 1048576) (hn : ∀ n ∈ ns, n ≤ 1048576) :
    Calls Try.prog 21 #[lv] w fun e w' => e = .returned (.bool true) ∧ Stay (fun k => ∃ (j : Nat) (s : Value), ss[j]? = some s ∧ s.ownBlock = some k) w w' := by
  obtain ⟨a0, c0, hlv, -⟩ := slice_form h.row
  obtain ⟨NN, hNN⟩ : ∃ NN, NN = ss.length := ⟨_, rfl⟩
  rw [← hNN] at hlv hN
  have HH := Hid.mk (And.intro h (And.intro hn hNN))
  have Q0 : Hid (EC.AQ apartCM w w ss ns lv (.slice none 0 0) [] 0) := El.AQ.start h
  subst hlv
  clear h hn hNN
  go_enter Try.func21, Try.ntmps21
  go_wp2
  go_loopw [3, 4] (fun um ui wr => apartCR w ss ns (.slice a0 NN c0) um ui wr) (fun _ u _ => NN - (intOf u).toNat)
  case atStart => exact ⟨0, none, 0, [], rfl, rfl, Nat.zero_le _, Q0⟩
  case round =>
    clear Q0
    obtain ⟨i, am, cm, ms, rfl, rfl, hi, HQ⟩ := hrel
    obtain ⟨w1, rfl⟩ : ∃ w1, w1 = wr := ⟨_, rfl⟩
    by_cases hlt : i < NN
    · have i1 : (i : Int) < (NN : Int) := by omega
      have i2 : (0 : Int) ≤ (i : Int) := by omega
      have hil : i < ss.length := by have := HH.out.2.2; omega
      obtain ⟨s, hs⟩ : ∃ s, ss[i]? = some s := ⟨_, List.getElem?_eq_getElem hil⟩
      obtain ⟨n, hn⟩ : ∃ n, ns[i]? = some n := ⟨_, List.getElem?_eq_getElem (by rw [HQ.out.len]; exact hil)⟩
      have hnl : n ≤ 1048576 := HH.out.2.1 n (List.mem_of_getElem? hn)
      obtain ⟨X, hXn, hX⟩ := HQ.out.left i s n (Nat.le_refl _) hs hn
      obtain ⟨sa, sc, hsv, -⟩ := slice_form hX
      rw [hXn] at hsv
      have hw20 : IntKind.i64.wrap (-20 - (i : Int)) = -20 - (i : Int) := by rw [IntKind.wrap_i64]; omega
      have hwi : IntKind.i64.wrap ((i : Int) + 1) = ((i + 1 : Nat) : Int) := by rw [IntKind.wrap_i64]; omega
      obtain ⟨g0, hg0⟩ : ∃ g0, a0 = some ⟨g0, 0, none⟩ := by
        rcases HQ.out.lrow.2 with ⟨e, e2⟩ | ⟨g, cap, cur, e, -⟩
        · omega
        · simp only [Value.slice.injEq] at e
          exact ⟨g, e.1⟩
      subst hg0
      have x0 : w1.cell? ⟨g0, i, none⟩ = some (.slice sa n sc) := by
        have h9 := HQ.out.lrow
        rw [← HH.out.2.2] at h9
        have := World.ownsRow.cellAt h9 i (by omega)
        rw [hs, hsv] at this
        exact this
      have HB : Hid (∀ b, s.ownBlock = some b → b < w1.heap.size) := fun b hb => row_lt hX hb
      have bA : Below w1.heap.size w1 (w1.alloc (.cells (EC.f (apartCM i)).toArray 30)) := (Below.refl _ w1).alloc (Nat.le_refl _) _
      have hb1 := heap_alloc_last w1 (.cells (EC.f (apartCM i)).toArray 30)
      obtain ⟨W1, hW1⟩ : ∃ W1, W1 = w1.alloc (.cells (EC.f (apartCM i)).toArray 30) := ⟨_, rfl⟩
      rw [← hW1] at bA hb1
      have hw' : w1.alloc (.cells #[.int .i64 (-20 - (i : Int)), .int .i64 77] 30) = W1 := hW1.symm
      have R0 : Hid (apartCK w1 s n i w1.heap.size (.int .i64 ((0 : Nat) : Int)) W1) := ⟨0, X, rfl, Nat.zero_le _, hXn, rfl, El.Row.below hX bA, hb1, .below bA⟩
      have x1 := cell_lat bA x0
      have HS := Hid.mk (And.intro hs (And.intro hn hsv))
      clear hs hn hX hXn bA hb1 hW1
      go_wp2
      clear x0 x1
      go_loopw [7] (fun u wr => apartCK w1 s n i w1.heap.size u wr) (fun u _ => n - (intOf u).toNat)
      case atStart => exact R0.out
      case round =>
        obtain ⟨j, Y, rfl, hj, HM⟩ := hrel
        by_cases hjn : j < n
        · have j1 : (j : Int) < (n : Int) := by omega
          have j2 : (0 : Int) ≤ (j : Int) := by omega
          have hjY : j < Y.length := by have := HM.out.1; omega
          obtain ⟨g, cap, e1, Y0, Y1, fz⟩ := chRow HM.out.2.2.1 j hjY
          have e2 := HS.out.2.2
          rw [e1] at e2
          simp only [Value.slice.injEq] at e2
          obtain ⟨rfl, -, rfl⟩ := e2
          have z0 : wr.cell? ⟨w1.heap.size, 0, none⟩ = some (.int .i64 (-20 - (i : Int))) := by rw [cell_of_row _ _ 0 _ _ (0, 0) HM.out.2.2.2.1]; rfl
          have z1 : wr.cell? ⟨w1.heap.size, 1, none⟩ = some (.int .i64 77) := by rw [cell_of_row _ _ 1 _ _ (0, 0) HM.out.2.2.2.1]; rfl
          obtain ⟨p0, y0⟩ : ∃ p, wr.cell? ⟨g, j * 2, none⟩ = some p := ⟨_, Y0⟩
          obtain ⟨p1, y1⟩ : ∃ p, wr.cell? ⟨g, j * 2 + 1, none⟩ = some p := ⟨_, Y1⟩
          have f0 := fz (j * 2)
          have f1 := fz (j * 2 + 1)
          have hgb : g < w1.heap.size := HB.out g (by rw [e1]; rfl)
          have hsv' := HS.out.2.2
          have st1 : Stay (fun k => k = g) wr (put2 wr g j (apartCM i)) := ((Stay.refl (fun k => k = g) wr).setCell (fun _ => rfl) _).setCell (fun _ => rfl) _
          have HN : Hid (apartCK w1 s n i w1.heap.size (.int .i64 ((j + 1 : Nat) : Int)) (put2 wr g j (apartCM i))) := by
            refine ⟨j + 1, Y.set j (apartCM i), rfl, hjn, by rw [List.length_set]; exact HM.out.1, ?_, ?_, ?_, ?_⟩
            · rw [List.take_succ_eq_append_getElem (by rw [List.length_set]; exact hjY), List.take_set_of_le (Nat.le_refl _), HM.out.2.1, List.getElem_set_self, List.replicate_succ']
            · rw [hsv']
              exact chSet (by have := HM.out.2.2.1; rw [hsv'] at this; exact this) HM.out.1.symm j hjY (apartCM i)
            · exact (st1.block w1.heap.size (Array.getElem?_eq_some_iff.1 HM.out.2.2.2.1).1 (fun e => by omega)).trans HM.out.2.2.2.1
            · exact HM.out.2.2.2.2.trans (st1.mono (fun k _ e => by rw [hsv', e]; rfl))
          have hwj : IntKind.i64.wrap ((j : Int) + 1) = ((j + 1 : Nat) : Int) := by rw [IntKind.wrap_i64]; omega
          simp only [apartCM, put2] at HN
          clear fz e1 hsv' HM R0 st1 Y0 Y1
          go_wp2
          exact ⟨HN.out, by simp only [intOf]; omega⟩
        · have j1 : ¬ (j : Int) < (n : Int) := by omega
          have hYr : Y = List.replicate n (apartCM i) := by
            have h1 := HM.out.2.1
            rw [List.take_of_length_le (by have := HM.out.1; omega)] at h1
            rw [h1]; congr 1; omega
          have G0 : Hid (apartCG w1 s n i w1.heap.size (.slice sa (n + 0) sc) (.int .i64 ((0 : Nat) : Int)) wr) := by
            refine ⟨0, sa, sc, rfl, rfl, by omega, by rw [← hYr]; exact HM.out.2.2.1, ?_, HM.out.2.2.2.1, HM.out.2.2.2.2, ?_, ?_⟩
            · have h9 := HM.out.2.2.1
              rw [hYr, HS.out.2.2] at h9; exact h9
            · exact (Array.getElem?_eq_some_iff.1 HM.out.2.2.2.1).1
            · cases sa with
              | none => exact .inr (fun b hb => by cases hb)
              | some ad =>
                have h9 := HM.out.2.2.1
                rw [HS.out.2.2] at h9
                rcases h9.2 with ⟨e, _⟩ | ⟨g, cap, cur, e, -⟩
                · cases e
                · simp only [Value.slice.injEq] at e
                  obtain ⟨e3, -, rfl⟩ := e
                  exact .inl ⟨g, sc, by rw [HS.out.2.2, e3], by rw [e3]⟩
          clear HM hYr R0
          go_wp2
          clear j1
          go_loopw [6, 8] (fun ul u wr => apartCG w1 s n i w1.heap.size ul u wr) (fun _ u _ => 70 - (intOf u).toNat)
          case atStart => exact G0.out
          case round =>
            obtain ⟨t, al, cl, rfl, rfl, ht, HG⟩ := hrel
            by_cases htl : t < 70
            · have t1 : (t : Int) < 70 := by omega
              have hsz : w1.heap.size + 1 ≤ wr.heap.size := HG.out.2.2.2.2.1
              have z0 : wr.cell? ⟨w1.heap.size, 0, none⟩ = some (.int .i64 (-20 - (i : Int))) := by rw [cell_of_row _ _ 0 _ _ (0, 0) HG.out.2.2.1]; rfl
              have z1 : wr.cell? ⟨w1.heap.size, 1, none⟩ = some (.int .i64 77) := by rw [cell_of_row _ _ 1 _ _ (0, 0) HG.out.2.2.1]; rfl
              obtain ⟨l', W', hap, hl', hs', hr', st'⟩ := El.grow okC wr n t s (.slice al (n + t) cl) (apartCM i) (w1.heap.size + 1) hsz HG.out.1 HG.out.2.1 HG.out.2.2.2.2.2 (fun b hb => by have := HB.out b hb; omega) (by omega)
              obtain ⟨a', c', e', -⟩ := slice_form hl'
              rw [List.length_replicate] at e'
              subst e'
              have hlB : ∀ k, (Value.slice al (n + t) cl).ownBlock = some k → s.ownBlock = some k ∨ w1.heap.size + 1 ≤ k := fun k hk => by
                rcases HG.out.2.2.2.2.2 with ⟨g, cap, e1, e2⟩ | h9
                · left; rw [e1]; rw [e2] at hk; exact hk
                · exact .inr (h9 k hk)
              have HN : Hid (apartCG w1 s n i w1.heap.size (.slice a' (n + (t + 1)) c') (.int .i64 ((t + 1 : Nat) : Int)) W') := by
                refine ⟨t + 1, a', c', rfl, rfl, htl, hs', hl', ?_, ?_, Nat.le_trans hsz st'.size, hr'⟩
                · refine (st'.block w1.heap.size (by omega) (fun e => ?_)).trans HG.out.2.2.1
                  rcases e with e | e
                  · have := HB.out _ e; omega
                  · rcases hlB _ e with h9 | h9
                    · have := HB.out _ h9; omega
                    · omega
                · refine HG.out.2.2.2.1.andThen st' (fun k hk e => ?_)
                  rcases e with e | e
                  · exact e
                  · rcases hlB k e with h9 | h9
                    · exact h9
                    · omega
              have hwt : IntKind.i64.wrap ((t : Int) + 1) = ((t + 1 : Nat) : Int) := by rw [IntKind.wrap_i64]; omega
              obtain ⟨q1, hq1⟩ : ∃ q1, q1 = n + t := ⟨_, rfl⟩
              obtain ⟨q2, hq2⟩ : ∃ q2, q2 = n + (t + 1) := ⟨_, rfl⟩
              rw [← hq1] at hap ⊢
              rw [← hq2] at hap HN
              dsimp only [EC, apartCM] at hap
              clear hq1 hq2 hlB st' hr' hs' hl' HG G0
              go_wp2_with (at_builtin; refine wpList_append_eq rfl _ _ _ _ rfl _ _ _ _ rfl rfl hap ?_; clear hap)
              exact ⟨HN.out, by simp only [intOf]; omega⟩
            · have t1 : ¬ (t : Int) < 70 := by omega
              obtain rfl : t = 70 := by omega
              have hml := HQ.out.ml
              have hsX : ∃ X0 : List (Int × Int), EC.Row w1 s X0 := by
                obtain ⟨X0, -, h0⟩ := HQ.out.left i s n (Nat.le_refl _) HS.out.1 HS.out.2.1
                exact ⟨X0, h0⟩
              have mr : wr.ownsRow 0 23 1 (.slice am i cm) ms.length ms := by
                obtain ⟨X0, h0⟩ := hsX
                exact row_kept HQ.out.mrow HG.out.2.2.2.1 (fun k hk e => El.two okC2 HQ.out.mrow h0 hk e)
              obtain ⟨a3, c3, W3, hap, m3, st3, hnew⟩ := El.more okC2 wr ms am cm (by rw [hml]; rw [hml] at mr; exact mr) (by omega) (.slice al (n + 70) cl) rfl
              rw [hml] at hap m3 st3 hnew
              dsimp only [EC] at hap
              have Q3 := El.AQ.step okC2 HQ.out HS.out.1 HS.out.2.1 HG.out.2.2.2.1 HG.out.1 HG.out.2.1 (fun b hb => by
                rcases HG.out.2.2.2.2.2 with ⟨g, cap, e1, e2⟩ | h9
                · left; rw [e1]; rw [e2] at hb; exact hb
                · right; have := h9 b hb; omega) m3 st3 hnew
              have HN : Hid (apartCR w ss ns (.slice (some ⟨g0, 0, none⟩) NN c0) (.slice a3 (i + 1) c3) (.int .i64 ((i + 1 : Nat) : Int)) W3) := ⟨i + 1, a3, c3, _, rfl, rfl, hil, Q3⟩
              clear Q3 m3 st3 hnew mr hsX HG G0 HQ
              go_wp2_with (at_builtin; refine wpList_append_eq rfl _ _ _ _ rfl _ _ _ _ rfl rfl hap ?_; clear hap)
              exact ⟨HN.out, by simp only [intOf]; omega⟩
    · have i1 : ¬ (i : Int) < (NN : Int) := by omega
      obtain rfl : i = NN := by have := HH.out.2.2; omega
      clear hi hlt
      go_wp2
      clear i1
      go_loopw [9] (fun u wr => apartCC w1 i u wr) (fun u _ => i - (intOf u).toNat)
      case atStart => exact ⟨0, rfl, Nat.zero_le _, Below.refl _ _⟩
      case round =>
        obtain ⟨q, rfl, hq, bq⟩ := hrel
        by_cases hlt : q < i
        · have q1 : (q : Int) < (i : Int) := by omega
          have q2 : (0 : Int) ≤ (q : Int) := by omega
          have hql : q < ss.length := by have := HH.out.2.2; omega
          have hqm : q < ms.length := by have := HQ.out.ml; omega
          obtain ⟨s, hs⟩ : ∃ s, ss[q]? = some s := ⟨_, List.getElem?_eq_getElem hql⟩
          obtain ⟨m, hm⟩ : ∃ m, ms[q]? = some m := ⟨_, List.getElem?_eq_getElem hqm⟩
          obtain ⟨n, hn⟩ : ∃ n, ns[q]? = some n := ⟨_, List.getElem?_eq_getElem (by rw [HQ.out.len]; exact hql)⟩
          have hnl : n ≤ 1048576 := HH.out.2.1 n (List.mem_of_getElem? hn)
          obtain ⟨d1, d2⟩ := HQ.out.done q s m n hs hm hn
          obtain ⟨sa, sc, hsv, -⟩ := slice_form d1
          obtain ⟨ma, mc, hmv, -⟩ := slice_form d2
          rw [List.length_replicate] at hsv hmv
          subst hsv
          subst hmv
          have hw20 : IntKind.i64.wrap (-20 - (q : Int)) = -20 - (q : Int) := by rw [IntKind.wrap_i64]; omega
          have hwi : IntKind.i64.wrap ((q : Int) + 1) = ((q + 1 : Nat) : Int) := by rw [IntKind.wrap_i64]; omega
          obtain ⟨g0, hg0⟩ : ∃ g0, a0 = some ⟨g0, 0, none⟩ := by
            rcases HQ.out.lrow.2 with ⟨e, e2⟩ | ⟨g, cap, cur, e, -⟩
            · omega
            · simp only [Value.slice.injEq] at e
              exact ⟨g, e.1⟩
          obtain ⟨gm, hgm⟩ : ∃ gm, am = some ⟨gm, 0, none⟩ := by
            rcases HQ.out.mrow.2 with ⟨e, e2⟩ | ⟨g, cap, cur, e, -⟩
            · omega
            · simp only [Value.slice.injEq] at e
              exact ⟨g, e.1⟩
          subst hg0
          subst hgm
          have bA : Below wr.heap.size wr (wr.alloc (.cells (EC.f (apartCM q)).toArray 30)) := (Below.refl _ wr).alloc (Nat.le_refl _) _
          have hb1 := heap_alloc_last wr (.cells (EC.f (apartCM q)).toArray 30)
          obtain ⟨W1, hW1⟩ : ∃ W1, W1 = wr.alloc (.cells (EC.f (apartCM q)).toArray 30) := ⟨_, rfl⟩
          rw [← hW1] at bA hb1
          have hw' : wr.alloc (.cells #[.int .i64 (-20 - (q : Int)), .int .i64 77] 30) = W1 := hW1.symm
          have z0 : W1.cell? ⟨wr.heap.size, 0, none⟩ = some (.int .i64 (-20 - (q : Int))) := by rw [cell_of_row _ _ 0 _ _ (0, 0) hb1]; rfl
          have z1 : W1.cell? ⟨wr.heap.size, 1, none⟩ = some (.int .i64 77) := by rw [cell_of_row _ _ 1 _ _ (0, 0) hb1]; rfl
          have bW : Below w1.heap.size w1 W1 := bq.trans (bA.mono bq.size)
          have x0 : W1.cell? ⟨g0, q, none⟩ = some (.slice sa n sc) := by
            have h9 := HQ.out.lrow
            rw [← HH.out.2.2] at h9
            have := World.ownsRow.cellAt h9 q (by omega)
            rw [hs] at this
            exact cell_lat bW this
          have x1 : W1.cell? ⟨gm, q, none⟩ = some (.slice ma (n + 70) mc) := by
            have h9 := HQ.out.mrow
            rw [HQ.out.ml] at h9
            have := World.ownsRow.cellAt h9 q (by omega)
            rw [hm] at this
            exact cell_lat bW this
          have D := Hid.mk (And.intro (El.Row.below d1 bW) (El.Row.below d2 bW))
          have HN : Hid (∀ W, Drew W1 W → apartCC w1 i (.int .i64 ((q + 1 : Nat) : Int)) W) := fun W hd => ⟨q + 1, rfl, hlt, bW.trans (hd.below _)⟩
          obtain ⟨mL, hmL⟩ : ∃ mL, mL = n + 70 := ⟨_, rfl⟩
          rw [← hmL] at x1
          have HmL := Hid.mk hmL
          clear hs hm hn d1 d2 bA hb1 hW1 bq bW hmL
          go_wp2
          go_loopw [11] (fun u wr => apartCD W1 mL u wr) (fun u _ => mL - (intOf u).toNat)
          case atStart => exact ⟨0, rfl, Nat.zero_le _, Drew.refl _⟩
          case round =>
            obtain ⟨j, rfl, hj, hd⟩ := hrel
            obtain ⟨dq, rfl⟩ := hd
            by_cases hjl : j < mL
            · have j1 : (j : Int) < (mL : Int) := by omega
              have j2 : (0 : Int) ≤ (j : Int) := by omega
              have hmle := HmL.out
              obtain ⟨bm, cm2, e1, u0, u1, -⟩ := chRow D.out.2 j (by rw [List.length_replicate]; omega)
              simp only [Value.slice.injEq] at e1
              obtain ⟨rfl, -, rfl⟩ := e1
              rw [List.getElem_replicate] at u0 u1
              simp only [apartCM] at u0 u1
              have HR1 : Hid (apartCD W1 mL (.int .i64 ((j + 1 : Nat) : Int)) (W1.drewN dq)) := ⟨j + 1, rfl, hjl, ⟨dq, rfl⟩⟩
              have HR2 : Hid (apartCD W1 mL (.int .i64 ((j + 1 : Nat) : Int)) (W1.drewN dq).drew) := ⟨j + 1, rfl, hjl, Drew.drew ⟨dq, rfl⟩⟩
              have hwj : IntKind.i64.wrap ((j : Int) + 1) = ((j + 1 : Nat) : Int) := by rw [IntKind.wrap_i64]; omega
              by_cases hjn : j < n
              · have j3 : (j : Int) < (n : Int) := by omega
                obtain ⟨bs, cs2, e1, v0, v1, -⟩ := chRow D.out.1 j (by rw [List.length_replicate]; omega)
                simp only [Value.slice.injEq] at e1
                obtain ⟨rfl, -, rfl⟩ := e1
                rw [List.getElem_replicate] at v0 v1
                simp only [apartCM] at v0 v1
                clear hmle HmL D HN
                go_wp2
                go_region
                all_goals
                  go_wp2
                  exact ⟨HR2.out, by simp only [intOf]; omega⟩
              · have j3 : ¬ (j : Int) < (n : Int) := by omega
                have j4 : ¬ j < n := hjn
                clear hmle HmL D HN
                go_wp2
                go_region
                all_goals
                  go_wp2
                  exact ⟨HR2.out, by simp only [intOf]; omega⟩
            · have j1 : ¬ (j : Int) < (mL : Int) := by omega
              have HE := Hid.mk (HN.out _ ⟨dq, rfl⟩)
              clear HN
              go_wp2
              exact ⟨HE.out, by simp only [intOf]; omega⟩
        · have q1 : ¬ (q : Int) < (i : Int) := by omega
          have HE : Hid (Stay (fun k => ∃ (j : Nat) (s : Value), ss[j]? = some s ∧ s.ownBlock = some k) w wr) := HQ.out.st.andThen (Stay.below (F := fun _ => False) bq) (fun _ _ h => h.elim)
          clear HQ HH bq
          go_wp2
          go_ret
          exact ⟨rfl, HE.out⟩
end Go.Proofs.Ytmdmjjobhkpojaa
