/-
  DERIVED. The law's moved: lists of lists of the call's own, read alone.
-/
import Derived.Test.YtbkbnhdeleoibaaLTwin
set_option linter.unusedVariables false
set_option linter.unusedSimpArgs false
namespace Go.Proofs.Ytbkbnhdeleoibaa
open Go.RowKit
/-- An entry moved. -/
def mvE (x : En) : En := ⟨x.v, x.c, x.i, IntKind.i64.wrap (x.s.tdiv 2), !x.d⟩
def mvR : List En → List En
  | [] => []
  | x :: r => mvE x :: r
def mvL (R : List (List En)) : List (List En) := R.map mvR
theorem mvR_len (r : List En) : (mvR r).length = r.length := by cases r <;> rfl
theorem mvL_len (R : List (List En)) : (mvL R).length = R.length := by simp [mvL]
theorem mvL_at {R : List (List En)} {i : Nat} {r : List En} (h : R[i]? = some r) : (mvL R)[i]? = some (mvR r) := by simp [mvL, h]
theorem mvR_set {x : En} {r : List En} : (((x :: r).flatMap enC).set 3 (.int .i64 (IntKind.i64.wrap (x.s.tdiv 2)))).set 4 (.bool (!x.d)) = (mvR (x :: r)).flatMap enC := by simp [enC, mvR, mvE]
/-- Lists of lists, all of whose memory is from B on. -/
structure ML (B : Nat) (W : World) (lv : Value) (ss : List Value) (R : List (List En)) : Prop where
  len : ss.length = R.length
  row : W.ownsRow 0 24 1 lv ss.length ss
  each : ∀ (i : Nat) (r : List En) (s : Value), R[i]? = some r → ss[i]? = some s → HRow W s r
  new : ∀ g, lv.ownBlock = some g → B ≤ g
  lnew : ∀ (i : Nat) (s : Value) (g : Nat), ss[i]? = some s → s.ownBlock = some g → B ≤ g
theorem ML.nil (B : Nat) (W : World) : ML B W (.slice none 0 0) [] [] := ⟨rfl, ⟨rfl, .inl ⟨rfl, rfl⟩⟩, (fun i r s h => by simp at h), (fun g h => by cases h), (fun i s g h => by simp at h)⟩
theorem ML.stay {B : Nat} {F : Nat → Prop} {W W' : World} {lv : Value} {ss : List Value} {R : List (List En)} (h : ML B W lv ss R) (st : Stay F W W') (hF : ∀ k, B ≤ k → k < W.heap.size → ¬ F k) : ML B W' lv ss R :=
  ⟨h.len, row_kept h.row st (fun k hk => hF k (h.new k hk) (row_lt h.row hk)), fun i r s hr hs => by
    have h1 := h.each i r s hr hs
    exact row_kept h1 st (fun k hk => hF k (h.lnew i s k hs hk) (row_lt h1 hk)), h.new, h.lnew⟩
theorem ML.lat {B : Nat} {W W' : World} {lv : Value} {ss : List Value} {R : List (List En)} (h : ML B W lv ss R) (b : Below W.heap.size W W') : ML B W' lv ss R := h.stay (F := fun _ => False) (.below b) (fun _ _ _ e => e)
theorem ML.ll {B : Nat} {W : World} {a : Option Addr} {c n : Nat} {ss : List Value} {R : List (List En)} (h : ML B W (.slice a n c) ss R) (hl : ∀ r ∈ R, r.length ≤ 1048576) : LL W a R := ⟨fun k r hr => by
  have hk : k < R.length := (List.getElem?_eq_some_iff.1 hr).1
  have hks : k < ss.length := by rw [h.len]; exact hk
  have hs : ss[k]? = some ss[k] := List.getElem?_eq_getElem hks
  obtain ⟨la, lc, e, hlc, hL⟩ := own_lat (h.each k r _ hr hs)
  have hg : ∃ g, a = some ⟨g, 0, none⟩ := by
    rcases h.row.2 with ⟨e, e2⟩ | ⟨g, cap, cur, e, -⟩
    · omega
    · simp only [Value.slice.injEq] at e
      exact ⟨g, e.1⟩
  obtain ⟨g, rfl⟩ := hg
  refine ⟨g, 0, la, lc, rfl, ?_, hlc, hL, by have := hl r (List.mem_of_getElem? hr); omega⟩
  have hform := h.row
  obtain ⟨a', c', e', -⟩ := slice_form hform
  simp only [Value.slice.injEq] at e'
  obtain ⟨-, e2, -⟩ := e'
  rw [e2] at hform
  rw [Nat.zero_add, World.ownsRow.cellAt hform k (by omega), hs, e]⟩
/-- A new list is put behind. -/
theorem ML.push {B : Nat} {W : World} {a : Option Addr} {c n : Nat} {ss : List Value} {R : List (List En)} (h : ML B W (.slice a n c) ss R) (hb : B ≤ W.heap.size) (hl : R.length ≤ 1048576) {t : Value} {r : List En} (ht : HRow W t r) (htn : ∀ g, t.ownBlock = some g → B ≤ g) (h1c : t.oneCell' = true) :
    ∃ a' c' W', (Builtin.append_ #[22, 22] 22 #[.slice a n c, .slice (some ⟨W.heap.size, 0, none⟩) 1 1]).run Try.prog (W.alloc (.cells #[t] 24)) = .ok (.slice a' (n + 1) c') W' ∧ ML B W' (.slice a' (n + 1) c') (ss ++ [t]) (R ++ [r]) ∧ Below B W W' := by
  have hn : n = ss.length := by
    obtain ⟨a', c', e', -⟩ := slice_form h.row
    simp only [Value.slice.injEq] at e'
    exact e'.2.1
  subst hn
  obtain ⟨a', c', W', hap, ho, st, hloc⟩ := more_app W ss a c h.row (by rw [h.len]; omega) t h1c
  refine ⟨a', c', W', hap, ⟨by simp [h.len], ho, fun i r' s hr hs => ?_, fun g hg => ?_, fun i s g hs hg => ?_⟩, st.toBelow (fun k hk e => by have := h.new k e; omega) hb⟩
  · rcases Nat.lt_or_ge i R.length with hlt | hge
    · rw [List.getElem?_append_left hlt] at hr
      rw [List.getElem?_append_left (by rw [h.len]; exact hlt)] at hs
      have h1 := h.each i r' s hr hs
      exact row_kept h1 st (fun k hk e => rows_apart h.row h1 e hk)
    · rw [List.getElem?_append_right hge] at hr
      rw [List.getElem?_append_right (by rw [h.len]; exact hge)] at hs
      obtain ⟨q1, q2⟩ := List.getElem?_eq_some_iff.1 hr
      obtain ⟨q3, q4⟩ := List.getElem?_eq_some_iff.1 hs
      simp at q1 q2 q3 q4
      subst q2; subst q4
      exact row_kept ht st (fun k hk e => rows_apart h.row ht e hk)
  · rcases hloc g hg with e | e
    · exact h.new g e
    · omega
  · rcases Nat.lt_or_ge i ss.length with hlt | hge
    · rw [List.getElem?_append_left hlt] at hs
      exact h.lnew i s g hs hg
    · rw [List.getElem?_append_right hge] at hs
      obtain ⟨q3, q4⟩ := List.getElem?_eq_some_iff.1 hs
      simp at q3 q4
      subst q4
      exact htn g hg
def RV1 (w : World) (R : List (List En)) (uo u : Value) (wr : World) : Prop := ∃ (i : Nat) (a : Option Addr) (c : Nat) (ss : List Value), uo = .slice a i c ∧ u = .int .i64 i ∧ i ≤ R.length ∧ Hid (ML w.heap.size wr (.slice a i c) ss ((mvL R).take i) ∧ Below w.heap.size w wr)
set_option maxHeartbeats 4000000 in
set_option maxRecDepth 100000 in
theorem moved_any (R : List (List En)) (hR : ∀ r ∈ R, r.length ≤ 1048576) (la : Option Addr) (ca : Nat) (w : World) (ha : LL w la R) (hl : R.length ≤ 1048576) :
    Calls Try.prog 5 #[.slice la R.length ca] w fun e w' => ∃ a c, e = .returned (.slice a R.length c) ∧ (∃ ss, ML w.heap.size w' (.slice a R.length c) ss (mvL R)) ∧ Below w.heap.size w w' := by
  obtain ⟨n, hn⟩ : ∃ n, n = R.length := ⟨_, rfl⟩
  have HA := Hid.mk (And.intro ha (And.intro hR hn))
  rw [← hn] at hl ⊢
  clear ha hR hn
  go_enter Try.func5, Try.ntmps5
  go_wp2
  go_loopw [3, 4] (fun uo u wr => RV1 w R uo u wr) (fun _ u _ => n - (intOf u).toNat)
  case atStart => exact ⟨0, none, 0, [], rfl, rfl, Nat.zero_le _, ML.nil _ _, Below.refl _ _⟩
  case round =>
    obtain ⟨i, ao, co, ss, rfl, rfl, hi, HR⟩ := hrel
    obtain ⟨w1, rfl⟩ : ∃ w1, w1 = wr := ⟨_, rfl⟩
    by_cases hlt : i < n
    · have i1 : (i : Int) < (n : Int) := by omega
      have i2 : (0 : Int) ≤ (i : Int) := by omega
      have hiR : i < R.length := by have := HA.out.2.2; omega
      obtain ⟨r, hr⟩ : ∃ r, r = R[i] := ⟨_, rfl⟩
      have hri : R[i]? = some r := by rw [hr]; exact List.getElem?_eq_getElem hiR
      have hrR : r ∈ R := by rw [hr]; exact List.getElem_mem hiR
      obtain ⟨g, off, a, c, e1, x0, hcap, hLr, hrl⟩ := HA.out.1.at' i r hri
      subst e1
      replace x0 := cell_lat HR.out.2 x0
      have hwi : IntKind.i64.wrap ((i : Int) + 1) = ((i + 1 : Nat) : Int) := by rw [IntKind.wrap_i64]; omega
      obtain ⟨m, hm⟩ : ∃ m, m = r.length := ⟨_, rfl⟩
      have hml : m ≤ 1048576 := by have := HA.out.2.1 r hrR; omega
      obtain ⟨v', W', hap, ho, st', hloc⟩ := ent_app w1 [] r (.slice none 0 0) ⟨rfl, .inl ⟨rfl, rfl⟩⟩ a c (hLr.below HR.out.2).at' (by simp; omega)
      rw [List.nil_append] at ho
      obtain ⟨al, cl, e', -⟩ := slice_form ho
      rw [← hm] at hap e' x0
      subst e'
      have bW : Below w1.heap.size w1 W' := st'.toBelow (fun k hk e => by cases e) (Nat.le_refl _)
      have hnew : ∀ g, (Value.slice al m cl).ownBlock = some g → w1.heap.size ≤ g := fun g hg => (hloc g hg).elim (fun e => by cases e) id
      have fin : ∀ W2, HRow W2 (.slice al m cl) (mvR r) → Below w1.heap.size w1 W2 → ∃ a3 c3 W3, (Builtin.append_ #[22, 22] 22 #[.slice ao i co, .slice (some ⟨W2.heap.size, 0, none⟩) 1 1]).run Try.prog (W2.alloc (.cells #[.slice al m cl] 24)) = .ok (.slice a3 (i + 1) c3) W3 ∧ Hid (RV1 w R (.slice a3 (i + 1) c3) (.int .i64 ((i + 1 : Nat) : Int)) W3) := fun W2 h2 b2 => by
        obtain ⟨a3, c3, W3, hap, M3, b3⟩ := (HR.out.1.lat b2).push (Nat.le_trans HR.out.2.size b2.size) (by rw [List.length_take]; omega) (t := .slice al m cl) (r := mvR r) h2 (fun g hg => Nat.le_trans HR.out.2.size (hnew g hg)) rfl
        refine ⟨a3, c3, W3, hap, i + 1, a3, c3, ss ++ [.slice al m cl], rfl, rfl, hiR, ?_, HR.out.2.trans ((b2.mono HR.out.2.size).trans b3)⟩
        rw [show (mvL R).take (i + 1) = (mvL R).take i ++ [mvR r] from ?_]
        · exact M3
        · have h9 := mvL_at hri
          obtain ⟨q1, q2⟩ := List.getElem?_eq_some_iff.1 h9
          rw [List.take_succ_eq_append_getElem q1, q2]
      have FIN := Hid.mk fin
      by_cases h0 : r = []
      · have hm0 : m = 0 := by rw [hm, h0]; rfl
        subst hm0
        obtain ⟨a3, c3, W3, hap3, HN⟩ := FIN.out W' (by rw [h0] at ho ⊢; exact ho) bW
        clear hr hri hrR hLr hm ho st' hloc bW hnew fin FIN h0 HR hcap hrl
        go_wp2_with first
          | (at_builtin; refine wpList_append_eq rfl _ _ _ _ rfl _ _ _ _ rfl rfl hap ?_; clear hap x0)
          | (at_builtin; refine wpList_append_eq rfl _ _ _ _ rfl _ _ _ _ rfl rfl hap3 ?_; clear hap3)
        exact ⟨HN.out, by simp only [intOf]; omega⟩
      · obtain ⟨x, r', hxr⟩ : ∃ x r', r = x :: r' := by
          cases r with
          | nil => exact absurd rfl h0
          | cons x r' => exact ⟨x, r', rfl⟩
        have hm1 : 0 < m := by rw [hm, hxr]; simp
        have hm2 : (0 : Int) < (m : Int) := by omega
        obtain ⟨b, cap, e1, y0, y1, y2, y3, y4, fz⟩ := HRow.at' ho 0 (by rw [hxr]; simp)
        simp only [Value.slice.injEq] at e1
        obtain ⟨rfl, -, rfl⟩ := e1
        simp only [hxr, List.getElem_cons_zero, Nat.zero_mul, Nat.zero_add] at y0 y1 y2 y3 y4
        obtain ⟨z, hz⟩ : ∃ z, IntKind.i64.wrap (x.s.tdiv 2) = z := ⟨_, rfl⟩
        obtain ⟨W5, hW5⟩ : ∃ W5, (W'.setCell ⟨b, 3, none⟩ (.int .i64 z)).setCell ⟨b, 4, none⟩ (.bool (!x.d)) = W5 := ⟨_, rfl⟩
        have h5 : HRow W5 (.slice (some ⟨b, 0, none⟩) m cl) (mvR r) := by
          have h6 : W'.ownsRow 0 36 5 (.slice (some ⟨b, 0, none⟩) m cl) m (r.flatMap enC) := by
            have h9 : W'.ownsRow 0 36 5 (.slice (some ⟨b, 0, none⟩) m cl) r.length (r.flatMap enC) := ho
            rw [← hm] at h9; exact h9
          have e6 : (mvR r).flatMap enC = (((r.flatMap enC).set 3 (.int .i64 z)).set 4 (.bool (!x.d))) := by rw [hxr, ← hz, mvR_set]
          show W5.ownsRow 0 36 5 _ (mvR r).length ((mvR r).flatMap enC)
          rw [mvR_len, ← hm, e6, ← hW5]
          exact (World.ownsRow.stored (World.ownsRow.stored h6 _ _).1 _ _).1
        have hb : w1.heap.size ≤ b := hnew b rfl
        have b5 : Below w1.heap.size w1 W5 := by rw [← hW5]; exact (bW.setCell (p := ⟨b, 3, none⟩) hb _).setCell (p := ⟨b, 4, none⟩) hb _
        obtain ⟨a3, c3, W3, hap3, HN⟩ := FIN.out W5 h5 b5
        have f3 := fz 3
        have f4 := fz 4
        have hmI : ((m : Nat) : Int) ≠ 0 := by omega
        clear hr hri hrR hLr hm ho st' hloc bW hnew fin FIN h0 HR hcap hrl h5 hb b5 hxr fz y0 y1 y2
        go_wp2_with first
          | (at_builtin; refine wpList_append_eq rfl _ _ _ _ rfl _ _ _ _ rfl rfl hap ?_; clear hap x0)
          | (at_builtin; refine wpList_append_eq rfl _ _ _ _ rfl _ _ _ _ rfl rfl hap3 ?_; clear hap3)
        exact ⟨HN.out, by simp only [intOf]; omega⟩
    · have i1 : ¬ (i : Int) < (n : Int) := by omega
      obtain rfl : i = n := by have := HA.out.2.2; omega
      have HE : Hid (ML w.heap.size w1 (.slice ao i co) ss (mvL R) ∧ Below w.heap.size w w1) := by
        have h9 := HR.out
        rw [List.take_of_length_le (by rw [mvL_len]; have := HA.out.2.2; omega)] at h9
        exact h9
      clear HR
      go_wp2
      go_ret
      exact ⟨_, _, rfl, ⟨_, HE.out.1⟩, HE.out.2⟩
end Go.Proofs.Ytbkbnhdeleoibaa
