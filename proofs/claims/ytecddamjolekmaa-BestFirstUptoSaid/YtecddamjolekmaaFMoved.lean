/-
  DERIVED. The law's moved: lists of lists of the call's own, read alone.
-/
import Derived.Test.YtecddamjolekmaaEApart1
import Derived.Test.YtecddamjolekmaaFRef
set_option linter.unusedVariables false
set_option linter.unusedSimpArgs false
namespace Go.Proofs.Ytecddamjolekmaa
open Go.RowKit
/-- A hit moved. -/
def mv (i : Nat) (x : Ht) : Ht := ⟨x.d.tdiv 2 + i, x.i, x.c⟩
def mvL (R : List (List Ht)) : List (List Ht) := R.mapIdx (fun i r => r.map (mv i))
theorem mvL_len (R : List (List Ht)) : (mvL R).length = R.length := by simp [mvL]
theorem mvL_at {R : List (List Ht)} {i : Nat} {r : List Ht} (h : R[i]? = some r) : (mvL R)[i]? = some (r.map (mv i)) := by simp [mvL, h]
theorem tdiv_two (d : Int) (h : I64 d) : -4611686018427387904 ≤ d.tdiv 2 ∧ d.tdiv 2 ≤ 4611686018427387904 := by
  obtain ⟨h1, h2⟩ := h
  rcases Int.le_total 0 d with h0 | h0
  · rw [Int.tdiv_eq_ediv_of_nonneg h0]; omega
  · have : d.tdiv 2 = -((-d) / 2) := by rw [← Int.tdiv_eq_ediv_of_nonneg (by omega), Int.neg_tdiv]; omega
    rw [this]; omega
theorem mv_wf {i : Nat} {x : Ht} (hi : i ≤ 1048576) (h : HtW x) : HtW (mv i x) := ⟨by
  have := tdiv_two x.d h.1
  unfold I64 mv; simp only; omega, h.2⟩
/-- Lists of lists, all of whose memory is from B on. -/
structure ML (B : Nat) (W : World) (lv : Value) (ss : List Value) (R : List (List Ht)) : Prop where
  len : ss.length = R.length
  row : W.ownsRow 0 24 1 lv ss.length ss
  each : ∀ (i : Nat) (r : List Ht) (s : Value), R[i]? = some r → ss[i]? = some s → HRow W s r
  new : ∀ g, lv.ownBlock = some g → B ≤ g
  lnew : ∀ (i : Nat) (s : Value) (g : Nat), ss[i]? = some s → s.ownBlock = some g → B ≤ g
theorem ML.nil (B : Nat) (W : World) : ML B W (.slice none 0 0) [] [] := ⟨rfl, ⟨rfl, .inl ⟨rfl, rfl⟩⟩, (fun i r s h => by simp at h), (fun g h => by cases h), (fun i s g h => by simp at h)⟩
theorem ML.stay {B : Nat} {F : Nat → Prop} {W W' : World} {lv : Value} {ss : List Value} {R : List (List Ht)} (h : ML B W lv ss R) (st : Stay F W W') (hF : ∀ k, B ≤ k → k < W.heap.size → ¬ F k) : ML B W' lv ss R :=
  ⟨h.len, row_kept h.row st (fun k hk => hF k (h.new k hk) (row_lt h.row hk)), fun i r s hr hs => by
    have h1 := h.each i r s hr hs
    exact row_kept h1 st (fun k hk => hF k (h.lnew i s k hs hk) (row_lt h1 hk)), h.new, h.lnew⟩
theorem ML.lat {B : Nat} {W W' : World} {lv : Value} {ss : List Value} {R : List (List Ht)} (h : ML B W lv ss R) (b : Below W.heap.size W W') : ML B W' lv ss R := h.stay (F := fun _ => False) (.below b) (fun _ _ _ e => e)
theorem ML.ll {B : Nat} {W : World} {a : Option Addr} {c n : Nat} {ss : List Value} {R : List (List Ht)} (h : ML B W (.slice a n c) ss R) : LL W a R := ⟨fun k r hr => by
  have hk : k < R.length := (List.getElem?_eq_some_iff.1 hr).1
  have hks : k < ss.length := by rw [h.len]; exact hk
  have hs : ss[k]? = some ss[k] := List.getElem?_eq_getElem hks
  obtain ⟨la, lc, e, hlc, hL⟩ := own_lat (h.each k r _ hr hs)
  have hg : ∃ g, a = some ⟨g, 0, none⟩ := by
    rcases h.row.2 with ⟨e, e2⟩ | ⟨g, cap, cur, e, -⟩
    · omega
    · simp only [Value.slice.injEq] at e
      exact ⟨g, e.1⟩
  obtain ⟨g, rfl⟩ := hg
  refine ⟨g, 0, la, lc, rfl, ?_, hL⟩
  have hform := h.row
  obtain ⟨a', c', e', -⟩ := slice_form hform
  simp only [Value.slice.injEq] at e'
  obtain ⟨-, e2, -⟩ := e'
  rw [e2] at hform
  rw [Nat.zero_add, World.ownsRow.cellAt hform k (by omega), hs, e]⟩
/-- A new list is put behind. -/
theorem ML.push {B : Nat} {W : World} {a : Option Addr} {c n : Nat} {ss : List Value} {R : List (List Ht)} (h : ML B W (.slice a n c) ss R) (hb : B ≤ W.heap.size) (hl : R.length ≤ 1048576) {t : Value} {r : List Ht} (ht : HRow W t r) (htn : ∀ g, t.ownBlock = some g → B ≤ g) (h1c : t.oneCell' = true) :
    ∃ a' c' W', (Builtin.append_ #[22, 22] 22 #[.slice a n c, .slice (some ⟨W.heap.size, 0, none⟩) 1 1]).run Try.prog (W.alloc (.cells #[t] 24)) = .ok (.slice a' (n + 1) c') W' ∧ ML B W' (.slice a' (n + 1) c') (ss ++ [t]) (R ++ [r]) ∧ Below B W W' := by
  have hn : n = ss.length := by
    obtain ⟨a', c', e', -⟩ := slice_form h.row
    simp only [Value.slice.injEq] at e'
    exact e'.2.1
  subst hn
  obtain ⟨a', c', W', hap, ho, st, hloc⟩ := more_app W ss a c h.row (by rw [h.len]; omega) t h1c
  refine ⟨a', c', W', hap, ⟨by simp [h.len], ho, fun i r' s hr hs => ?_, fun g hg => ?_, fun i s g hs hg => ?_⟩, st.toBelow (fun k hk e => by have := h.new k e; omega) hb⟩
  · rcases Nat.lt_or_ge i R.length with hlt | hge
    · rw [List.getElem?_append_left hlt] at hr
      rw [List.getElem?_append_left (by rw [h.len]; exact hlt)] at hs
      have h1 := h.each i r' s hr hs
      exact row_kept h1 st (fun k hk e => DL.apart h.row h1 e hk)
    · rw [List.getElem?_append_right hge] at hr
      rw [List.getElem?_append_right (by rw [h.len]; exact hge)] at hs
      obtain ⟨q1, q2⟩ := List.getElem?_eq_some_iff.1 hr
      obtain ⟨q3, q4⟩ := List.getElem?_eq_some_iff.1 hs
      simp at q1 q2 q3 q4
      subst q2; subst q4
      exact row_kept ht st (fun k hk e => DL.apart h.row ht e hk)
  · rcases hloc g hg with e | e
    · exact h.new g e
    · omega
  · rcases Nat.lt_or_ge i ss.length with hlt | hge
    · rw [List.getElem?_append_left hlt] at hs
      exact h.lnew i s g hs hg
    · rw [List.getElem?_append_right hge] at hs
      obtain ⟨q3, q4⟩ := List.getElem?_eq_some_iff.1 hs
      simp at q3 q4
      subst q4
      exact htn g hg
def RV1 (w : World) (R : List (List Ht)) (uo u : Value) (wr : World) : Prop := ∃ (i : Nat) (a : Option Addr) (c : Nat) (ss : List Value), uo = .slice a i c ∧ u = .int .i64 i ∧ i ≤ R.length ∧ Hid (ML w.heap.size wr (.slice a i c) ss ((mvL R).take i) ∧ Below w.heap.size w wr)
def RV2 (w w1 : World) (i : Nat) (r : List Ht) (ul u : Value) (wr : World) : Prop := ∃ (j : Nat) (a : Option Addr) (c : Nat), ul = .slice a j c ∧ u = .int .i64 j ∧ j ≤ r.length ∧ Hid (HRow wr (.slice a j c) ((r.take j).map (mv i)) ∧ (∀ g, (Value.slice a j c).ownBlock = some g → w1.heap.size ≤ g) ∧ Below w1.heap.size w1 wr)
set_option maxHeartbeats 4000000 in
set_option maxRecDepth 100000 in
theorem moved_any (R : List (List Ht)) (hR : ∀ r ∈ R, r.length ≤ 1048576 ∧ ∀ x ∈ r, HtW x) (la : Option Addr) (ca : Nat) (w : World) (ha : LL w la R) (hl : R.length ≤ 1048576) :
    Calls Try.prog 5 #[.slice la R.length ca] w fun e w' => ∃ a c ss, e = .returned (.slice a R.length c) ∧ ML w.heap.size w' (.slice a R.length c) ss (mvL R) ∧ Below w.heap.size w w' := by
  obtain ⟨n, hn⟩ : ∃ n, n = R.length := ⟨_, rfl⟩
  have HA := Hid.mk (And.intro ha (And.intro hR hn))
  rw [← hn] at hl ⊢
  clear ha hR hn
  go_enter Try.func5, Try.ntmps5
  go_wp2
  go_loopw [3, 4] (fun uo u wr => RV1 w R uo u wr) (fun _ u _ => n - (intOf u).toNat)
  case atStart => exact ⟨0, none, 0, [], rfl, rfl, Nat.zero_le _, ML.nil _ _, Below.refl _ _⟩
  case round =>
    obtain ⟨i, ao, co, ss, rfl, rfl, hi, HR⟩ := hrel
    obtain ⟨w1, rfl⟩ : ∃ w1, w1 = wr := ⟨_, rfl⟩
    by_cases hlt : i < n
    · have i1 : (i : Int) < (n : Int) := by omega
      have i2 : (0 : Int) ≤ (i : Int) := by omega
      have hiR : i < R.length := by have := HA.out.2.2; omega
      obtain ⟨r, hr⟩ : ∃ r, r = R[i] := ⟨_, rfl⟩
      have hri : R[i]? = some r := by rw [hr]; exact List.getElem?_eq_getElem hiR
      have hrR : r ∈ R := by rw [hr]; exact List.getElem_mem hiR
      obtain ⟨g, off, a, c, e1, x0, hLr⟩ := HA.out.1.at' i r hri
      subst e1
      have X0 := Hid.mk (cell_lat HR.out.2 x0)
      clear x0
      have hwi : IntKind.i64.wrap ((i : Int) + 1) = ((i + 1 : Nat) : Int) := by rw [IntKind.wrap_i64]; omega
      obtain ⟨m, hm⟩ : ∃ m, m = r.length := ⟨_, rfl⟩
      have hml : m ≤ 1048576 := by have := (HA.out.2.1 r hrR).1; omega
      rw [← hm] at X0
      have HH := Hid.mk (And.intro (hLr.below HR.out.2) (And.intro hm (And.intro (HA.out.2.1 r hrR).2 (And.intro hri hiR))))
      clear hr hri hrR hLr hm
      go_wp2
      go_loopw [5, 6] (fun ul u wr => RV2 w w1 i r ul u wr) (fun _ u _ => m - (intOf u).toNat)
      case atStart => exact ⟨0, none, 0, rfl, rfl, Nat.zero_le _, ⟨rfl, .inl ⟨rfl, rfl⟩⟩, (fun g h => by cases h), Below.refl _ _⟩
      case round =>
        obtain ⟨j, al, cl, rfl, rfl, hj, HP⟩ := hrel
        have x0 := cell_lat HP.out.2.2 X0.out
        by_cases hjl : j < m
        · have j1 : (j : Int) < (m : Int) := by omega
          have j2 : (0 : Int) ≤ (j : Int) := by omega
          have hjr : j < r.length := by have := HH.out.2.1; omega
          obtain ⟨g2, o2, e2, y0, y1, y2⟩ := HH.out.1.hit (W := wr) (fun q hq => HP.out.2.2.block q hq) j hjr
          subst e2
          obtain ⟨x, hx⟩ : ∃ x, x = r[j] := ⟨_, rfl⟩
          rw [← hx] at y0 y1 y2
          have hxw : HtW x := by rw [hx]; exact HH.out.2.2.1 _ (List.getElem_mem hjr)
          have htd := tdiv_two x.d hxw.1
          have hw2 : IntKind.i64.wrap (x.d.tdiv 2) = x.d.tdiv 2 := by rw [IntKind.wrap_i64]; omega
          have hw3 : IntKind.i64.wrap (x.d.tdiv 2 + (i : Int)) = x.d.tdiv 2 + (i : Int) := by rw [IntKind.wrap_i64]; omega
          have bA : Below wr.heap.size wr (wr.alloc (.cells #[.int .i64 0, .int .i64 0, .string ⟨#[]⟩] 28)) := (Below.refl _ wr).alloc (Nat.le_refl _) _
          have hb1 := heap_alloc_last wr (.cells #[.int .i64 0, .int .i64 0, .string ⟨#[]⟩] 28)
          obtain ⟨W1, hW1⟩ : ∃ W1, W1 = wr.alloc (.cells #[.int .i64 0, .int .i64 0, .string ⟨#[]⟩] 28) := ⟨_, rfl⟩
          rw [← hW1] at bA hb1
          have z0 : W1.cell? ⟨wr.heap.size, 0, none⟩ = some (.int .i64 0) := by rw [cell_of_row _ _ 0 _ _ (0, 0) hb1]; rfl
          have z1 : W1.cell? ⟨wr.heap.size, 1, none⟩ = some (.int .i64 0) := by rw [cell_of_row _ _ 1 _ _ (0, 0) hb1]; rfl
          have z2 : W1.cell? ⟨wr.heap.size, 2, none⟩ = some (.string ⟨#[]⟩) := by rw [cell_of_row _ _ 2 _ _ (0, 0) hb1]; rfl
          have zf : ∀ j, W1.frozen? ⟨wr.heap.size, j, none⟩ = false := fun j => frozen_of_row _ _ _ _ _ hb1
          have hw' := hW1.symm
          have yy0 := cell_lat bA y0
          have yy1 := cell_lat bA y1
          have yy2 := cell_lat bA y2
          have xx0 := cell_lat bA x0
          obtain ⟨W5, hW5, st5, hb5, o0, o1, o2'⟩ := fin3 hb1 rfl (.int .i64 x.d) (.int .i64 x.i) (.string x.c)
          have b5 : Below wr.heap.size wr W5 := bA.trans (st5.toBelow (B := wr.heap.size) (fun k hk h => by (have h' : k = wr.heap.size := h; omega)) bA.size)
          have of : ∀ j, W5.frozen? ⟨wr.heap.size, j, none⟩ = false := fun j => frozen_of_row _ _ _ _ _ hb5
          obtain ⟨W6, hW6⟩ : ∃ W6, W5.setCell ⟨wr.heap.size, 0, none⟩ (.int .i64 (x.d.tdiv 2 + (i : Int))) = W6 := ⟨_, rfl⟩
          have hb6 : W6.heap[wr.heap.size]? = some (.cells #[.int .i64 (x.d.tdiv 2 + (i : Int)), .int .i64 x.i, .string x.c] 28 (0, 0)) := by rw [← hW6, heap_setCell_same W5 wr.heap.size 0 _ _ _ hb5]; rfl
          have b6 : Below wr.heap.size wr W6 := by rw [← hW6]; exact b5.setCell (p := ⟨wr.heap.size, 0, none⟩) (Nat.le_refl _) _
          have v0 : W6.cell? ⟨wr.heap.size, 0, none⟩ = some (.int .i64 (x.d.tdiv 2 + (i : Int))) := by rw [cell_of_row _ _ 0 _ _ (0, 0) hb6]; rfl
          have v1 : W6.cell? ⟨wr.heap.size, 1, none⟩ = some (.int .i64 x.i) := by rw [cell_of_row _ _ 1 _ _ (0, 0) hb6]; rfl
          have v2 : W6.cell? ⟨wr.heap.size, 2, none⟩ = some (.string x.c) := by rw [cell_of_row _ _ 2 _ _ (0, 0) hb6]; rfl
          have hlen : ((r.take j).map (mv i)).length = j := by rw [List.length_map, List.length_take]; omega
          obtain ⟨v', W', hap, ho, st', hloc⟩ := ent_app1 W6 ((r.take j).map (mv i)) (.slice al j cl) (HRow.below HP.out.1 b6) (mv i x) (by rw [hlen]; omega)
          have hmap : (r.take j).map (mv i) ++ [mv i x] = (r.take (j + 1)).map (mv i) := by rw [List.take_succ_eq_append_getElem hjr, List.map_append, ← hx]; rfl
          rw [hmap] at ho
          have hlen' : ((r.take (j + 1)).map (mv i)).length = j + 1 := by rw [List.length_map, List.length_take]; omega
          obtain ⟨a', c', e', -⟩ := slice_form ho
          rw [hlen'] at e'
          subst e'
          have HN : Hid (RV2 w w1 i r (.slice a' (j + 1) c') (.int .i64 ((j + 1 : Nat) : Int)) W') := by
            refine ⟨j + 1, a', c', rfl, rfl, hjr, ho, fun g hg => ?_, HP.out.2.2.trans ((b6.mono HP.out.2.2.size).trans (st'.toBelow (fun k hk e => by have := HP.out.2.1 k e; omega) (Nat.le_trans HP.out.2.2.size b6.size)))⟩
            rcases hloc g hg with e | e
            · exact HP.out.2.1 g e
            · exact Nat.le_trans HP.out.2.2.size (Nat.le_trans b6.size e)
          have hwj : IntKind.i64.wrap ((j : Int) + 1) = ((j + 1 : Nat) : Int) := by rw [IntKind.wrap_i64]; omega
          simp only [hC, mv] at hap
          clear hmap ho st' hloc hlen hlen' HP hx bA hb1 hb5 hb6 st5 b5 b6 hW1 htd hxw
          go_wp2_with (at_builtin; refine wpList_append_eq rfl _ _ _ _ rfl _ _ _ _ rfl rfl hap ?_; clear hap)
          exact ⟨HN.out, by simp only [intOf]; omega⟩
        · have j1 : ¬ (j : Int) < (m : Int) := by omega
          have hjm : j = r.length := by have := HH.out.2.1; omega
          obtain ⟨a3, c3, W3, hap, M3, b3⟩ := (HR.out.1.lat HP.out.2.2).push (Nat.le_trans HR.out.2.size HP.out.2.2.size) (by rw [List.length_take]; omega) (t := .slice al j cl) (r := r.map (mv i)) (by
            have h9 := HP.out.1
            rw [List.take_of_length_le (by omega)] at h9; exact h9) (fun g hg => Nat.le_trans HR.out.2.size (HP.out.2.1 g hg)) rfl
          have HN : Hid (RV1 w R (.slice a3 (i + 1) c3) (.int .i64 ((i + 1 : Nat) : Int)) W3) := by
            refine ⟨i + 1, a3, c3, ss ++ [.slice al j cl], rfl, rfl, HH.out.2.2.2.2, ?_, ?_⟩
            · rw [show (mvL R).take (i + 1) = (mvL R).take i ++ [r.map (mv i)] from ?_]
              · exact M3
              · have h9 := mvL_at HH.out.2.2.2.1
                obtain ⟨q1, q2⟩ := List.getElem?_eq_some_iff.1 h9
                rw [List.take_succ_eq_append_getElem q1, q2]
            · exact HR.out.2.trans ((HP.out.2.2.mono HR.out.2.size).trans b3)
          clear M3 b3 HP HR hjm
          go_wp2_with (at_builtin; refine wpList_append_eq rfl _ _ _ _ rfl _ _ _ _ rfl rfl hap ?_; clear hap)
          exact ⟨HN.out, by simp only [intOf]; omega⟩
    · have i1 : ¬ (i : Int) < (n : Int) := by omega
      obtain rfl : i = n := by have := HA.out.2.2; omega
      have HE : Hid (ML w.heap.size w1 (.slice ao i co) ss (mvL R) ∧ Below w.heap.size w w1) := by
        have h9 := HR.out
        rw [List.take_of_length_le (by rw [mvL_len]; have := HA.out.2.2; omega)] at h9
        exact h9
      clear HR
      go_wp2
      go_ret
      exact ⟨_, _, rfl, ⟨_, HE.out.1⟩, HE.out.2⟩
end Go.Proofs.Ytecddamjolekmaa
