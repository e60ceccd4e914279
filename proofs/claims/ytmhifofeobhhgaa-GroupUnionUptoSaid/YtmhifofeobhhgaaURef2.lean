/-
  DERIVED. The document's own Join.
-/
import Derived.Test.YtmhifofeobhhgaaURef1
import Derived.BigRegion
set_option linter.unusedVariables false
set_option linter.unusedSimpArgs false
namespace Go.Proofs.Ytmhifofeobhhgaa
open Go.RowKit Go.Proofs.UnionMath
theorem getD_at (S : List Int) (k : Nat) (h : k < S.length) : S.getD k 0 = S[k] := by simp [List.getD, List.getElem?_eq_getElem h]
theorem S_lt {S : List Int} (h : S.Pairwise (· < ·)) {a b : Nat} (ha : a < S.length) (hb : b < S.length) : S[a] < S[b] ↔ a < b := by
  have hp := List.pairwise_iff_getElem.1 h
  constructor
  · intro g
    rcases Nat.lt_trichotomy a b with q | q | q
    · exact q
    · subst q; omega
    · have := hp b a hb ha q; omega
  · exact fun g => hp a b ha hb g
theorem S_eq {S : List Int} (h : S.Pairwise (· < ·)) {a b : Nat} (ha : a < S.length) (hb : b < S.length) : S[a] = S[b] ↔ a = b := by
  constructor
  · intro g
    rcases Nat.lt_trichotomy a b with q | q | q
    · have := (S_lt h ha hb).2 q; omega
    · exact q
    · have := (S_lt h hb ha).2 q; omega
  · intro g; subst g; rfl
/-- The first m written over. -/
def mixL (S : List Int) (R R' : Nat → Nat) (m : Nat) : List Int := (List.range S.length).map (fun k => if k < m then S.getD (R' k) 0 else S.getD (R k) 0)
theorem mixL_len (S : List Int) (R R' : Nat → Nat) (m : Nat) : (mixL S R R' m).length = S.length := by simp [mixL]
theorem mixL_0 (S : List Int) (R R' : Nat → Nat) : mixL S R R' 0 = lL S R := by simp [mixL, lL]
theorem mixL_n (S : List Int) (R R' : Nat → Nat) : mixL S R R' S.length = lL S R' := by
  unfold mixL lL
  apply List.map_congr_left
  intro k hk
  rw [if_pos (List.mem_range.1 hk)]
theorem mixL_get (S : List Int) (R R' : Nat → Nat) (m k : Nat) (h : k < (mixL S R R' m).length) : (mixL S R R' m)[k] = if k < m then S.getD (R' k) 0 else S.getD (R k) 0 := by simp [mixL]
theorem mixL_set (S : List Int) (R R' : Nat → Nat) (m : Nat) : (mixL S R R' m).set m (S.getD (R' m) 0) = mixL S R R' (m + 1) := by
  apply List.ext_getElem
  · simp [mixL]
  · intro k h1 h2
    rw [List.getElem_set, mixL_get S R R' (m + 1) k h2]
    by_cases e : m = k
    · subst e; rw [if_pos rfl, if_pos (by omega)]
    · rw [if_neg e, mixL_get]
      by_cases g : k < m
      · rw [if_pos g, if_pos (by omega)]
      · rw [if_neg g, if_neg (by omega)]
theorem mixL_same (S : List Int) (R R' : Nat → Nat) (m : Nat) (e : R' m = R m) : mixL S R R' (m + 1) = mixL S R R' m := by
  unfold mixL
  apply List.map_congr_left
  intro k hk
  by_cases q : k = m
  · subst q; rw [if_pos (by omega), if_neg (by omega), e]
  · by_cases g : k < m
    · rw [if_pos g, if_pos (by omega)]
    · rw [if_neg g, if_neg (by omega)]
set_option maxHeartbeats 4000000 in
set_option maxRecDepth 100000 in
theorem rjoin_no (p : Nat) (iv lv : Value) (S : List Int) (R : Nat → Nat) (a b : Int) (w : World) (h : RU w p iv lv S R) (hn : ¬ (a ∈ S ∧ b ∈ S)) :
    Calls Try.prog 11 #[Pt p, .int .i64 a, .int .i64 b] w fun e w' => e = .returned (.int .i64 131) ∧ w' = w := by
  have c1 := rat_any p iv S a w h.ids h.cells.1 h.row
  have c2 := rat_any p iv S b w h.ids h.cells.1 h.row
  have hA := plc_val h.ids.up (z := a)
  have hB := plc_val h.ids.up (z := b)
  obtain ⟨x, hx⟩ : ∃ x, x = (plc S a).getD (-1) := ⟨_, rfl⟩
  obtain ⟨y, hy⟩ : ∃ y, y = (plc S b).getD (-1) := ⟨_, rfl⟩
  rw [← hx] at c1 hA
  rw [← hy] at c2 hB
  have hxy : x < 0 ∨ (¬ x < 0 ∧ y < 0) := by
    rcases hA with ⟨i, hi, e, q⟩ | ⟨m, q⟩
    · right
      refine ⟨by omega, ?_⟩
      rcases hB with ⟨j, hj, e', q'⟩ | ⟨m', q'⟩
      · exact absurd ⟨e ▸ List.getElem_mem hi, e' ▸ List.getElem_mem hj⟩ hn
      · omega
    · left; omega
  clear hA hB hx hy hn h
  rcases hxy with q | ⟨q, q'⟩
  · go_enter Try.func11, Try.ntmps11
    go_wp2_with (first
      | (go_at_call 16; refine c1.mono ?_; clear c1; rintro e w' ⟨rfl, rfl⟩)
      | (go_at_call 16; refine c2.mono ?_; clear c2; rintro e w' ⟨rfl, rfl⟩))
    go_ret
    exact ⟨rfl, rfl⟩
  · go_enter Try.func11, Try.ntmps11
    go_wp2_with (first
      | (go_at_call 16; refine c1.mono ?_; clear c1; rintro e w' ⟨rfl, rfl⟩)
      | (go_at_call 16; refine c2.mono ?_; clear c2; rintro e w' ⟨rfl, rfl⟩))
    go_ret
    exact ⟨rfl, rfl⟩
/-- What is kept while the least ids are written over. -/
structure JI (w wr : World) (p : Nat) (iv : Value) (lg n lc : Nat) (S : List Int) (R R' : Nat → Nat) (m : Nat) : Prop where
  box : wr.heap[p]? = some (.cells #[iv, .slice (some ⟨lg, 0, none⟩) n lc] 50 (0, 0))
  row : iE.Row wr iv S
  lst : iE.Row wr (.slice (some ⟨lg, 0, none⟩) n lc) (mixL S R R' m)
  st : Stay (fun k => k = lg) w wr
theorem JI.set {w wr : World} {p : Nat} {iv : Value} {lg n lc : Nat} {S : List Int} {R R' : Nat → Nat} {m : Nat} (h : JI w wr p iv lg n lc S R R' m) (hn : n = S.length) (ap : ¬ iv.ownBlock = some lg) (hm : m < S.length) (x : Int) (hx : x = S.getD (R' m) 0) : JI w (wr.setCell ⟨lg, m, none⟩ (.int .i64 x)) p iv lg n lc S R R' (m + 1) := by
  have s1 : Stay (fun k => k = lg) wr (wr.setCell ⟨lg, m, none⟩ (.int .i64 x)) := Stay.setCell (F := fun k => k = lg) (p := ⟨lg, m, none⟩) (Stay.refl _ wr) (fun _ => rfl) _
  have r1 := i_set h.lst (by rw [mixL_len]; exact hn) m (by rw [mixL_len]; exact hm) x
  rw [hx, mixL_set] at r1
  subst hx
  have np : ¬ p = lg := fun e => by
    obtain ⟨cur, hc⟩ := row_block h.lst (k := lg) rfl
    have hb := h.box
    rw [e, hc] at hb
    injection hb with hb; injection hb with _ hb; revert hb; decide
  exact ⟨(s1.block p (Array.getElem?_eq_some_iff.1 h.box).1 np).trans h.box, row_kept h.row s1 (fun k hk e => ap (by rw [hk, e])), r1, h.st.andThen s1 (fun _ _ h => h)⟩
theorem JI.cells {w wr : World} {p : Nat} {iv : Value} {lg n lc : Nat} {S : List Int} {R R' : Nat → Nat} {m : Nat} (h : JI w wr p iv lg n lc S R R' m) : wr.cell? ⟨p, 1, none⟩ = some (.slice (some ⟨lg, 0, none⟩) n lc) := by
  have hb := h.box
  simp [World.cell?, hb]
theorem JI.drew {w wr : World} {p : Nat} {iv : Value} {lg n lc : Nat} {S : List Int} {R R' : Nat → Nat} {m : Nat} (h : JI w wr p iv lg n lc S R R' m) : JI w wr.drew p iv lg n lc S R R' m := ⟨h.box, El.Row.below h.row (b_drew wr), El.Row.below h.lst (b_drew wr), h.st.drew⟩
set_option maxHeartbeats 8000000 in
set_option maxRecDepth 100000 in
theorem rjoin_yes (p : Nat) (iv lv : Value) (S : List Int) (R : Nat → Nat) (i j : Nat) (hi : i < S.length) (hj : j < S.length) (w : World) (h : RU w p iv lv S R) :
    Calls Try.prog 11 #[Pt p, .int .i64 S[i], .int .i64 S[j]] w fun e w' => e = .returned (.int .i64 0) ∧ RU w' p iv lv S (jn R i j) ∧ Stay (fun k => lv.ownBlock = some k) w w' := by
  have c1 := rat_any p iv S S[i] w h.ids h.cells.1 h.row
  have c2 := rat_any p iv S S[j] w h.ids h.cells.1 h.row
  rw [plc_some h.ids.up hi] at c1
  rw [plc_some h.ids.up hj] at c2
  simp only [Option.getD_some] at c1 c2
  obtain ⟨lg, lc, hlv, l1, -⟩ := i_cell h.lst i (by rw [lL_len]; exact hi)
  have l2 := (i_cell' (by rw [hlv] at h; exact h.lst) j (by rw [lL_len]; exact hj)).1
  rw [lL_get] at l1 l2
  have t1 := h.top i hi
  have t2 := h.top j hj
  have ai : R i < S.length := by omega
  have aj : R j < S.length := by omega
  rw [getD_at S _ ai] at l1
  rw [getD_at S _ aj] at l2
  rw [lL_len] at hlv
  have hfew := h.ids.few
  obtain ⟨n, hn⟩ : ∃ n, S.length = n := ⟨_, rfl⟩
  have p1 := h.cells.2
  rw [hlv, hn] at p1
  have hap : ¬ iv.ownBlock = some lg := h.ap lg (by rw [hlv]; rfl)
  have J0 : JI w w p iv lg n lc S R (jn R i j) 0 := ⟨by have := h.box; rw [hlv, hn] at this; exact this, h.row, by have := h.lst; rw [hlv, hn, ← mixL_0 S R (jn R i j)] at this; exact this, .refl _ _⟩
  have FIN : Hid (∀ w', JI w w' p iv lg n lc S R (jn R i j) n → RU w' p iv lv S (jn R i j) ∧ Stay (fun k => lv.ownBlock = some k) w w') := fun w' q => by
    refine ⟨⟨h.ids, by rw [hlv, hn]; exact q.box, q.row, by have := q.lst; rw [← hn, mixL_n, ← hlv] at this; exact this, h.ap, fun k hk => ?_⟩, q.st.mono (fun k _ e => by rw [hlv, e]; rfl)⟩
    have tk := h.top k hk
    unfold jn joinR
    rcases Nat.le_total (R i) (R j) with g | g
    · rw [Nat.max_eq_right g, Nat.min_eq_left g]
      by_cases e : R k = R j
      · rw [if_pos e, t1.2]
        split <;> constructor <;> omega
      · rw [if_neg e, tk.2, if_neg e]; exact ⟨tk.1, rfl⟩
    · rw [Nat.max_eq_left g, Nat.min_eq_right g]
      by_cases e : R k = R i
      · rw [if_pos e, t2.2]
        split <;> constructor <;> omega
      · rw [if_neg e, tk.2, if_neg e]; exact ⟨tk.1, rfl⟩
  have HR' : Hid (∀ k, jn R i j k = if R k = max (R i) (R j) then min (R i) (R j) else R k) := fun k => rfl
  have HS := Hid.mk (And.intro h.ids.up (And.intro h.top (And.intro ai aj)))
  have H0 := Hid.mk J0
  obtain ⟨R', hR'⟩ : ∃ R', R' = jn R i j := ⟨_, rfl⟩
  rw [← hR'] at H0 FIN HR' ⊢
  obtain ⟨X1, hX1⟩ : ∃ X1, X1 = S[R i] := ⟨_, rfl⟩
  obtain ⟨X2, hX2⟩ : ∃ X2, X2 = S[R j] := ⟨_, rfl⟩
  obtain ⟨z1, hz1⟩ : ∃ z1, z1 = S[i] := ⟨_, rfl⟩
  obtain ⟨z2, hz2⟩ : ∃ z2, z2 = S[j] := ⟨_, rfl⟩
  rw [← hX1] at l1
  rw [← hX2] at l2
  rw [← hz1] at c1 ⊢
  rw [← hz2] at c2 ⊢
  have lt12 := S_lt h.ids.up ai aj
  have lt21 := S_lt h.ids.up aj ai
  rw [← hX1, ← hX2] at lt12 lt21
  have HX := Hid.mk (And.intro (show X1 = S.getD (R i) 0 by rw [getD_at S _ ai]; exact hX1) (And.intro (show X2 = S.getD (R j) 0 by rw [getD_at S _ aj]; exact hX2) hn))
  rw [hn] at hfew hi hj
  clear h J0 hX1 hX2 hz1 hz2 hlv hR' t1 t2 ai aj hn
  go_enter Try.func11, Try.ntmps11
  go_wp2_with (first
    | (go_at_call 16; refine c1.mono ?_; clear c1; rintro e w' ⟨rfl, hw'⟩; replace hw' := hw'.symm; subst hw')
    | (go_at_call 16; refine c2.mono ?_; clear c2; rintro e w' ⟨rfl, hw'⟩; replace hw' := hw'.symm; subst hw')
    | fail)
  rcases Nat.lt_trichotomy (R i) (R j) with hc | hc | hc
  · have q1 : X1 < X2 := lt12.2 hc
    have hM : max (R i) (R j) = R j := by omega
    have hm : min (R i) (R j) = R i := by omega
    rw [hM, hm] at HR'
    have q2 : ¬ X2 < X1 := by omega
    clear hM hm lt12 lt21 hc
    go_region
    go_wp2
    go_region
    go_wp2_with fail
    go_loopw [11] (fun u wr => ∃ m : Nat, u = .int .i64 m ∧ m ≤ n ∧ Hid (JI w wr p iv lg n lc S R R' m)) (fun u _ => n - (intOf u).toNat)
    case atStart => exact ⟨0, rfl, Nat.zero_le _, (by first | exact H0 | exact Hid.mk H0.out.drew | exact Hid.mk H0.out.drew.drew)⟩
    case round =>
      obtain ⟨m, rfl, hmn, HI⟩ := hrel
      have y1 := HI.out.cells
      by_cases hlt : m < n
      · have hlt' : (m : Int) < (n : Int) := by omega
        have hml : m < S.length := by rw [HX.out.2.2]; exact hlt
        obtain ⟨k0, kf⟩ := i_cell' HI.out.lst m (by rw [mixL_len]; exact hml)
        rw [mixL_get, if_neg (by omega)] at k0
        have tm := HS.out.2.1 m hml
        have wi : IntKind.i64.wrap ((m : Int) + 1) = ((m + 1 : Nat) : Int) := i64_in _ (by omega) (by omega)
        have HEQ : Hid (S.getD (R m) 0 = X2 ↔ R m = R j) := Hid.mk (by
          have e : X2 = S.getD (R j) 0 := by first | exact HX.out.1 | exact HX.out.2.1
          rw [e, getD_at S _ (by omega), getD_at S (R j) (by first | exact HS.out.2.2.1 | exact HS.out.2.2.2)]
          exact S_eq HS.out.1 _ _)
        obtain ⟨v, hv⟩ : ∃ v, v = S.getD (R m) 0 := ⟨_, rfl⟩
        rw [← hv] at k0 HEQ
        by_cases hq : R m = R j
        · have hb : (v == X2) = true := by simpa using HEQ.out.2 hq
          have HX2 : Hid (JI w (wr.setCell ⟨lg, m, none⟩ (.int .i64 X1)) p iv lg n lc S R R' (m + 1)) := Hid.mk (HI.out.set HX.out.2.2.symm hap hml X1 (by rw [HR'.out, if_pos hq]; first | exact HX.out.1 | exact HX.out.2.1))
          clear hq hv hlt hml tm HEQ HI
          go_wp2
          go_roundw
          case rel => exact ⟨m + 1, by go_num, by omega, HX2⟩
          case measure => simp [intOf]; omega
        · have hb : (v == X2) = false := by simpa using fun e => hq (HEQ.out.1 e)
          have HX2 : Hid (JI w wr p iv lg n lc S R R' (m + 1)) := Hid.mk (by
            have q := HI.out
            refine ⟨q.box, q.row, ?_, q.st⟩
            rw [mixL_same S R R' m (by rw [HR'.out, if_neg hq])]
            exact q.lst)
          clear hq hv hlt hml tm HEQ HI
          go_wp2
          go_roundw
          case rel => exact ⟨m + 1, by go_num, by omega, HX2⟩
          case measure => simp [intOf]; omega
      · have hlt' : ¬ (m : Int) < (n : Int) := by omega
        have HI2 : Hid (JI w wr p iv lg n lc S R R' n) := Hid.mk (by have := HI.out; rw [show m = n by omega] at this; exact this)
        clear HI hlt
        go_wp2
        go_ret
        exact ⟨rfl, FIN.out _ HI2.out⟩
  · have q0 : X1 = X2 := by have e1 := HX.out.1; have e2 := HX.out.2.1; rw [e1, e2, hc]
    subst q0
    have hM : max (R i) (R j) = R i := by omega
    have hm : min (R i) (R j) = R i := by omega
    rw [hM, hm] at HR'
    clear hM hm lt12 lt21 hc
    go_region
    go_wp2
    go_region
    go_wp2_with fail
    go_loopw [11] (fun u wr => ∃ m : Nat, u = .int .i64 m ∧ m ≤ n ∧ Hid (JI w wr p iv lg n lc S R R' m)) (fun u _ => n - (intOf u).toNat)
    case atStart => exact ⟨0, rfl, Nat.zero_le _, (by first | exact H0 | exact Hid.mk H0.out.drew | exact Hid.mk H0.out.drew.drew)⟩
    case round =>
      obtain ⟨m, rfl, hmn, HI⟩ := hrel
      have y1 := HI.out.cells
      by_cases hlt : m < n
      · have hlt' : (m : Int) < (n : Int) := by omega
        have hml : m < S.length := by rw [HX.out.2.2]; exact hlt
        obtain ⟨k0, kf⟩ := i_cell' HI.out.lst m (by rw [mixL_len]; exact hml)
        rw [mixL_get, if_neg (by omega)] at k0
        have tm := HS.out.2.1 m hml
        have wi : IntKind.i64.wrap ((m : Int) + 1) = ((m + 1 : Nat) : Int) := i64_in _ (by omega) (by omega)
        have HEQ : Hid (S.getD (R m) 0 = X1 ↔ R m = R i) := Hid.mk (by
          have e : X1 = S.getD (R i) 0 := by first | exact HX.out.1 | exact HX.out.2.1
          rw [e, getD_at S _ (by omega), getD_at S (R i) (by first | exact HS.out.2.2.1 | exact HS.out.2.2.2)]
          exact S_eq HS.out.1 _ _)
        obtain ⟨v, hv⟩ : ∃ v, v = S.getD (R m) 0 := ⟨_, rfl⟩
        rw [← hv] at k0 HEQ
        by_cases hq : R m = R i
        · have hb : (v == X1) = true := by simpa using HEQ.out.2 hq
          have HX2 : Hid (JI w (wr.setCell ⟨lg, m, none⟩ (.int .i64 X1)) p iv lg n lc S R R' (m + 1)) := Hid.mk (HI.out.set HX.out.2.2.symm hap hml X1 (by rw [HR'.out, if_pos hq]; first | exact HX.out.1 | exact HX.out.2.1))
          clear hq hv hlt hml tm HEQ HI
          go_wp2
          go_roundw
          case rel => exact ⟨m + 1, by go_num, by omega, HX2⟩
          case measure => simp [intOf]; omega
        · have hb : (v == X1) = false := by simpa using fun e => hq (HEQ.out.1 e)
          have HX2 : Hid (JI w wr p iv lg n lc S R R' (m + 1)) := Hid.mk (by
            have q := HI.out
            refine ⟨q.box, q.row, ?_, q.st⟩
            rw [mixL_same S R R' m (by rw [HR'.out, if_neg hq])]
            exact q.lst)
          clear hq hv hlt hml tm HEQ HI
          go_wp2
          go_roundw
          case rel => exact ⟨m + 1, by go_num, by omega, HX2⟩
          case measure => simp [intOf]; omega
      · have hlt' : ¬ (m : Int) < (n : Int) := by omega
        have HI2 : Hid (JI w wr p iv lg n lc S R R' n) := Hid.mk (by have := HI.out; rw [show m = n by omega] at this; exact this)
        clear HI hlt
        go_wp2
        go_ret
        exact ⟨rfl, FIN.out _ HI2.out⟩
  · have q1 : X2 < X1 := lt21.2 hc
    have hM : max (R i) (R j) = R i := by omega
    have hm : min (R i) (R j) = R j := by omega
    rw [hM, hm] at HR'
    have q2 : ¬ X1 < X2 := by omega
    clear hM hm lt12 lt21 hc
    go_region
    go_wp2
    go_region
    go_wp2_with fail
    go_loopw [11] (fun u wr => ∃ m : Nat, u = .int .i64 m ∧ m ≤ n ∧ Hid (JI w wr p iv lg n lc S R R' m)) (fun u _ => n - (intOf u).toNat)
    case atStart => exact ⟨0, rfl, Nat.zero_le _, (by first | exact H0 | exact Hid.mk H0.out.drew | exact Hid.mk H0.out.drew.drew)⟩
    case round =>
      obtain ⟨m, rfl, hmn, HI⟩ := hrel
      have y1 := HI.out.cells
      by_cases hlt : m < n
      · have hlt' : (m : Int) < (n : Int) := by omega
        have hml : m < S.length := by rw [HX.out.2.2]; exact hlt
        obtain ⟨k0, kf⟩ := i_cell' HI.out.lst m (by rw [mixL_len]; exact hml)
        rw [mixL_get, if_neg (by omega)] at k0
        have tm := HS.out.2.1 m hml
        have wi : IntKind.i64.wrap ((m : Int) + 1) = ((m + 1 : Nat) : Int) := i64_in _ (by omega) (by omega)
        have HEQ : Hid (S.getD (R m) 0 = X1 ↔ R m = R i) := Hid.mk (by
          have e : X1 = S.getD (R i) 0 := by first | exact HX.out.1 | exact HX.out.2.1
          rw [e, getD_at S _ (by omega), getD_at S (R i) (by first | exact HS.out.2.2.1 | exact HS.out.2.2.2)]
          exact S_eq HS.out.1 _ _)
        obtain ⟨v, hv⟩ : ∃ v, v = S.getD (R m) 0 := ⟨_, rfl⟩
        rw [← hv] at k0 HEQ
        by_cases hq : R m = R i
        · have hb : (v == X1) = true := by simpa using HEQ.out.2 hq
          have HX2 : Hid (JI w (wr.setCell ⟨lg, m, none⟩ (.int .i64 X2)) p iv lg n lc S R R' (m + 1)) := Hid.mk (HI.out.set HX.out.2.2.symm hap hml X2 (by rw [HR'.out, if_pos hq]; first | exact HX.out.1 | exact HX.out.2.1))
          clear hq hv hlt hml tm HEQ HI
          go_wp2
          go_roundw
          case rel => exact ⟨m + 1, by go_num, by omega, HX2⟩
          case measure => simp [intOf]; omega
        · have hb : (v == X1) = false := by simpa using fun e => hq (HEQ.out.1 e)
          have HX2 : Hid (JI w wr p iv lg n lc S R R' (m + 1)) := Hid.mk (by
            have q := HI.out
            refine ⟨q.box, q.row, ?_, q.st⟩
            rw [mixL_same S R R' m (by rw [HR'.out, if_neg hq])]
            exact q.lst)
          clear hq hv hlt hml tm HEQ HI
          go_wp2
          go_roundw
          case rel => exact ⟨m + 1, by go_num, by omega, HX2⟩
          case measure => simp [intOf]; omega
      · have hlt' : ¬ (m : Int) < (n : Int) := by omega
        have HI2 : Hid (JI w wr p iv lg n lc S R R' n) := Hid.mk (by have := HI.out; rw [show m = n by omega] at this; exact this)
        clear HI hlt
        go_wp2
        go_ret
        exact ⟨rfl, FIN.out _ HI2.out⟩
end Go.Proofs.Ytmhifofeobhhgaa
