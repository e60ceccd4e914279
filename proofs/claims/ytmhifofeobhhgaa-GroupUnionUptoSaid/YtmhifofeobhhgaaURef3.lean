/-
  DERIVED. The document's own Groups.
-/
import Derived.Test.YtmhifofeobhhgaaUGl
import Derived.BigRegion
import Derived.Deep.RegionHeld
set_option linter.unusedVariables false
set_option linter.unusedSimpArgs false
namespace Go.Proofs.Ytmhifofeobhhgaa
open Go.RowKit Go.Proofs.UnionMath
theorem oper_append_eq {P : Program} {w : World} {o : Oper} {a : Act} {K : Act → World → Prop} {Q : Exit → Act → World → Prop} (s x : Operand) (t u : TypeId)
    (ho : o.op = .call { callee := .builtin .append, args := #[s, x], argTypes := #[t, u] }) (v xv v' : Value) (w' : World) (hs : a.eval s = v) (hx : a.eval x = xv) (hr : (Builtin.append_ #[t, u] o.type #[v, xv]).run P w = .ok v' w')
    (h : K (a.put o.dst v') w') : Oper.wp P o a w K Q := by
  unfold Oper.wp execOp
  simp only [ho, resolve, invoke, builtin, Sem.run_bind, Sem.run_pure, Result.andThen_ok, List.map_toArray, List.map_cons, List.map_nil, hs, hx, hr]
  exact h
/-- The ids of a group. -/
def idsG (S : List Int) (g : List Nat) : List Int := g.map (fun k => S.getD k 0)
/-- What Groups answers. -/
def gA (S : List Int) (R : Nat → Nat) (least : Int) : List (List Int) := ((grps S.length R).map (idsG S)).filter (fun g => decide (least ≤ (g.length : Int)))
def oL (S : List Int) (R : Nat → Nat) (least : Int) (i : Nat) : List (List Int) := ((roots i R).map (fun r => idsG S (grp S.length R r))).filter (fun g => decide (least ≤ (g.length : Int)))
theorem oL_n (S : List Int) (R : Nat → Nat) (least : Int) : oL S R least S.length = gA S R least := by unfold oL gA grps; rw [List.map_map]; rfl
theorem oL_0 (S : List Int) (R : Nat → Nat) (least : Int) : oL S R least 0 = [] := rfl
theorem oL_skip (S : List Int) (R : Nat → Nat) (least : Int) (i : Nat) (h : ¬ R i = i) : oL S R least (i + 1) = oL S R least i := by
  unfold oL; rw [roots_succ, if_neg h, List.append_nil]
theorem oL_yes (S : List Int) (R : Nat → Nat) (least : Int) (i : Nat) (h : R i = i) (q : least ≤ ((idsG S (grp S.length R i)).length : Int)) : oL S R least (i + 1) = oL S R least i ++ [idsG S (grp S.length R i)] := by
  unfold oL; rw [roots_succ, if_pos h, List.map_append, List.filter_append]; simp [q]
theorem oL_no (S : List Int) (R : Nat → Nat) (least : Int) (i : Nat) (h : R i = i) (q : ¬ least ≤ ((idsG S (grp S.length R i)).length : Int)) : oL S R least (i + 1) = oL S R least i := by
  unfold oL; rw [roots_succ, if_pos h, List.map_append, List.filter_append]; simp [q]
theorem idsG_skip (S : List Int) (R : Nat → Nat) (i k : Nat) (h : ¬ R k = i) : idsG S (grp (k + 1) R i) = idsG S (grp k R i) := by rw [grp_succ, if_neg h, List.append_nil]
theorem idsG_yes (S : List Int) (R : Nat → Nat) (i k : Nat) (h : R k = i) : idsG S (grp (k + 1) R i) = idsG S (grp k R i) ++ [S.getD k 0] := by rw [grp_succ, if_pos h]; simp [idsG]
theorem idsG_len (S : List Int) (R : Nat → Nat) (i k : Nat) : (idsG S (grp k R i)).length ≤ k := by unfold idsG; rw [List.length_map]; exact grp_len k R i
theorem oL_len (S : List Int) (R : Nat → Nat) (least : Int) (i : Nat) : (oL S R least i).length ≤ i := by
  unfold oL
  refine Nat.le_trans (List.length_filter_le _ _) ?_
  rw [List.length_map]; exact roots_len i R
/-- What stands while a group is gathered: its box, its list, both new. -/
structure GI (W0 wr : World) (s : Sl) (X : List Int) : Prop where
  bx : wr.heap[W0.heap.size]? = some (.cells #[sV s] 53 (0, 0))
  row : iE.Row wr (sV s) X
  own : ∀ b, (sV s).ownBlock = some b → W0.heap.size < b
  st : Below W0.heap.size W0 wr
theorem GI.start (W0 : World) : GI W0 (W0.alloc (.cells #[.slice none 0 0] 53)) (none, 0, 0) [] :=
  ⟨heap_alloc_last W0 _, El.Row.nil iE _, fun b hb => (by cases hb), (Below.refl _ W0).alloc (Nat.le_refl _) _⟩
theorem GI.cell {W0 wr : World} {s : Sl} {X : List Int} (h : GI W0 wr s X) : wr.cell? ⟨W0.heap.size, 0, none⟩ = some (sV s) ∧ wr.frozen? ⟨W0.heap.size, 0, none⟩ = false := by
  have hb := h.bx
  constructor
  · simp [World.cell?, hb]
  · simp [World.frozen?, hb]
theorem GI.drew {W0 wr : World} {s : Sl} {X : List Int} (h : GI W0 wr s X) : GI W0 wr.drew s X := ⟨h.bx, El.Row.below h.row (b_drew wr), h.own, h.st.drew⟩
theorem GI.app {W0 wr : World} {s : Sl} {X : List Int} (h : GI W0 wr s X) (x : Int) (hX : X.length ≤ 1048576) :
    ∃ (s' : Sl) (w1 : World), (Builtin.append_ #[22, 22] 22 #[sV s, .slice (some ⟨wr.heap.size, 0, none⟩) 1 1]).run Try.prog (wr.alloc (.cells #[.int .i64 x] 3)) = .ok (sV s') w1 ∧ GI W0 (w1.setCell ⟨W0.heap.size, 0, none⟩ (sV s')) s' (X ++ [x]) ∧ Stay (fun k => (sV s).ownBlock = some k) wr w1 ∧ w1.cell? ⟨W0.heap.size, 0, none⟩ = some (sV s) ∧ w1.frozen? ⟨W0.heap.size, 0, none⟩ = false := by
  obtain ⟨v', w1, hr, ho, st, loc⟩ := El.app1 iOk wr X (sV s) h.row x (by show (X.length + 1) * 8 ≤ _; omega) (by omega)
  obtain ⟨a, c, e, -⟩ := El.Row.form ho
  have n1 : ¬ (sV s).ownBlock = some W0.heap.size := fun e => by have := h.own _ e; omega
  have b1 : w1.heap[W0.heap.size]? = some (.cells #[sV s] 53 (0, 0)) := (st.block _ (Array.getElem?_eq_some_iff.1 h.bx).1 n1).trans h.bx
  have hl : W0.heap.size < wr.heap.size := (Array.getElem?_eq_some_iff.1 h.bx).1
  refine ⟨(a, (X ++ [x]).length, c), w1, by rw [e] at hr; exact hr, ⟨?_, ?_, ?_, ?_⟩, st, by simp [World.cell?, b1], by simp [World.frozen?, b1]⟩
  · have := heap_setCell_same w1 W0.heap.size 0 #[sV s] 53 (sV (a, (X ++ [x]).length, c)) b1
    simpa using this
  · rw [e] at ho
    refine row_kept ho (Stay.setCell (F := fun k => k = W0.heap.size) (p := ⟨W0.heap.size, 0, none⟩) (Stay.refl _ w1) (fun _ => rfl) _) (fun k hk q => ?_)
    rcases loc k (by rw [e]; exact hk) with g | g
    · exact n1 (q ▸ g)
    · omega
  · intro b hb
    rcases loc b (by rw [e]; exact hb) with g | g
    · exact h.own b g
    · omega
  · exact (h.st.trans (Stay.toBelow st (fun k hk q => by have := h.own k q; omega) h.st.size)).setCell (Nat.le_refl _) _
theorem cell_stay {F : Nat → Prop} {w w' : World} {g o : Nat} {v : Value} (s : Stay F w w') (hg : ¬ F g) (h : w.cell? ⟨g, o, none⟩ = some v) : w'.cell? ⟨g, o, none⟩ = some v := by
  have hl := World.block_lt_of_cell? w _ h
  have := s.block g hl hg
  unfold World.cell? at h ⊢
  simp only at h ⊢
  rw [this]; exact h
theorem S_eqD {S : List Int} (hI : Ids S) {a b : Nat} (ha : a < S.length) (hb : b < S.length) : S.getD a 0 = S.getD b 0 ↔ a = b := by
  rw [getD_at S a ha, getD_at S b hb]; exact S_eq hI.up ha hb
/-- What Groups comes to. -/
def GrO (w : World) (L : List (List Int)) (e : Ending) (w' : World) : Prop := ∃ v ss, e = .returned v ∧ GL w.heap.size w' v ss L ∧ Below w.heap.size w w'
set_option maxHeartbeats 8000000 in
set_option maxRecDepth 100000 in
theorem rgroups_any (p : Nat) (iv lv : Value) (S : List Int) (R : Nat → Nat) (least : Int) (w : World) (h : RU w p iv lv S R) :
    Calls Try.prog 9 #[Pt p, .int .i64 least] w (GrO w (gA S R least)) := by
  obtain ⟨ai, ic, hiv, -⟩ := h.row.form
  obtain ⟨al, lc, hlv, -⟩ := h.lst.form
  rw [lL_len] at hlv
  obtain ⟨n, hn⟩ : ∃ n, S.length = n := ⟨_, rfl⟩
  rw [hn] at hiv hlv
  have hfew := h.ids.few
  rw [hn] at hfew
  have HU := Hid.mk (And.intro h hn)
  have H0 : Hid (GL w.heap.size w (.slice none 0 0) [] (oL S R least 0) ∧ Below w.heap.size w w) := ⟨GL.nil _ w, Below.refl _ _⟩
  clear h hn
  go_enter Try.func9, Try.ntmps9
  go_wp2
  go_loopw [5, 6] (fun o u wr => ∃ (vo : Value) (ss : List Sl) (i : Nat), o = vo ∧ u = .int .i64 i ∧ i ≤ n ∧ Hid (GL w.heap.size wr vo ss (oL S R least i) ∧ Below w.heap.size w wr)) (fun _ u _ => n - (intOf u).toNat)
  case atStart => exact ⟨_, [], 0, rfl, rfl, Nat.zero_le _, H0⟩
  case round =>
    obtain ⟨vo, ss, i, hvo, rfl, hin, HI⟩ := hrel
    replace hvo := hvo.symm
    subst hvo
    clear H0
    have hU := HU.out.1.below HI.out.2
    obtain ⟨p0, p1⟩ := hU.cells
    rw [hiv] at p0
    rw [hlv] at p1
    by_cases hlt : i < n
    · have hlt' : (i : Int) < (n : Int) := by omega
      have hil : i < S.length := by rw [HU.out.2]; exact hlt
      have ti := hU.top i hil
      obtain ⟨ig, ic', e, k0, -⟩ := i_cell hU.row i hil
      rw [hiv] at e
      injection e with e1 e2 e3
      obtain ⟨lg, lc', e', l0, -⟩ := i_cell hU.lst i (by rw [lL_len]; exact hil)
      rw [hlv] at e'
      injection e' with e4 e5 e6
      rw [lL_get] at l0
      rw [← getD_at S i hil] at k0
      have HEQ := Hid.mk (S_eqD hU.ids (Nat.lt_of_le_of_lt ti.1 hil) hil)
      subst e1 e4
      have wi : IntKind.i64.wrap ((i : Int) + 1) = ((i + 1 : Nat) : Int) := i64_in _ (by omega) (by omega)
      obtain ⟨x1, hx1⟩ : ∃ x1, x1 = S.getD (R i) 0 := ⟨_, rfl⟩
      obtain ⟨x2, hx2⟩ : ∃ x2, x2 = S.getD i 0 := ⟨_, rfl⟩
      rw [← hx1] at l0
      rw [← hx2] at k0
      rw [← hx1, ← hx2] at HEQ
      by_cases hr : R i = i
      · have hb : (x1 != x2) = false := by simpa using HEQ.out.2 hr
        have HX2 := Hid.mk hx2
        have HZ := Hid.mk k0
        have HP0 := Hid.mk p0
        have HR := Hid.mk (And.intro hr hil)
        clear hr hil ti e2 e3 e5 e6 HEQ hx1 hx2 hU
        go_wp2
        go_region
        go_wp2_with fail
        obtain ⟨wz, hwz⟩ : ∃ wz, wz = wr := ⟨_, rfl⟩
        subst hwz
        have G0 : Hid (GI wz.drew (wz.drew.alloc (.cells #[.slice none 0 0] 53)) (none, 0, 0) (idsG S (grp 0 R i))) := GI.start wz.drew
        go_loopw [8] (fun u wr => ∃ (s : Sl) (k : Nat), u = .int .i64 k ∧ k ≤ n ∧ Hid (GI wz.drew wr s (idsG S (grp k R i)))) (fun u _ => n - (intOf u).toNat)
        case atStart => exact ⟨_, 0, rfl, Nat.zero_le _, G0⟩
        case round =>
          obtain ⟨s, k, rfl, hkn, HG⟩ := hrel
          clear G0
          have bz : Below w.heap.size w wr := chain HI.out.2 (chain (b_drew wz) HG.out.st (Nat.le_refl _)) (Nat.le_refl _)
          have hU := HU.out.1.below bz
          obtain ⟨p0, p1⟩ := hU.cells
          rw [hiv] at p0
          rw [hlv] at p1
          obtain ⟨g0, gf⟩ := HG.out.cell
          have HBZ := Hid.mk bz
          clear bz
          by_cases hkl : k < n
          · have hkl' : (k : Int) < (n : Int) := by omega
            have hks : k < S.length := by rw [HU.out.2]; exact hkl
            have tk := hU.top k hks
            have k0 := (i_cell' (by have := hU.row; rw [hiv] at this; exact this) i HR.out.2).1
            have k1 := (i_cell' (by have := hU.row; rw [hiv] at this; exact this) k hks).1
            have l1 := (i_cell' (by have := hU.lst; rw [hlv] at this; exact this) k (by rw [lL_len]; exact hks)).1
            rw [lL_get] at l1
            rw [← getD_at S i HR.out.2, ← HX2.out] at k0
            rw [← getD_at S k hks] at k1
            have HEQ := Hid.mk (S_eqD hU.ids (Nat.lt_of_le_of_lt tk.1 hks) HR.out.2)
            rw [← HX2.out] at HEQ
            have wk : IntKind.i64.wrap ((k : Int) + 1) = ((k + 1 : Nat) : Int) := i64_in _ (by omega) (by omega)
            obtain ⟨y1, hy1⟩ : ∃ y1, y1 = S.getD (R k) 0 := ⟨_, rfl⟩
            obtain ⟨x, hx⟩ : ∃ x, x = S.getD k 0 := ⟨_, rfl⟩
            rw [← hy1] at l1 HEQ
            rw [← hx] at k1
            by_cases hrk : R k = i
            · have hb2 : (y1 == x2) = true := by simpa using HEQ.out.2 hrk
              obtain ⟨wy, hwy⟩ : ∃ wy, wy = wr.drew := ⟨_, rfl⟩
              have HGy := HG.out.drew
              have p0y : wr.drew.cell? ⟨p, 0, none⟩ = some (.slice (some ⟨ig, 0, none⟩) n ic) := p0
              have k1y : wr.drew.cell? ⟨ig, k, none⟩ = some (.int .i64 x) := k1
              obtain ⟨g0y, gfy⟩ := HGy.cell
              rw [← hwy] at HGy p0y k1y g0y gfy
              have HWY := Hid.mk hwy.symm
              obtain ⟨s', w1, hap, G1, st1, d0, df⟩ := HGy.drew.app x (Nat.le_trans (idsG_len S R i k) (by omega))
              rw [hx, ← idsG_yes S R i k hrk] at G1
              obtain ⟨sa, sl, sc⟩ := s
              obtain ⟨ta, tl, tc⟩ := s'
              simp only [sV] at hap d0 g0y g0
              have H1 := Hid.mk G1
              have g0y : wy.cell? ⟨wz.heap.size, 0, none⟩ = some (.slice sa sl sc) := g0y
              have d0 : w1.cell? ⟨wz.heap.size, 0, none⟩ = some (.slice sa sl sc) := d0
              have df : w1.frozen? ⟨wz.heap.size, 0, none⟩ = false := df
              have hig : ig ≠ wz.heap.size := fun e => by
                have := (World.block_lt_of_cell? _ _ (show wz.cell? ⟨ig, i, none⟩ = _ from HZ.out)); simp only at this; omega
              have st1' : Stay (fun k => (sV (sa, sl, sc)).ownBlock = some k) wy w1 := st1.undrew
              have hpn : ¬ (sV (sa, sl, sc)).ownBlock = some p := fun e => hU.nebox HG.out.row e
              have hin2 : ¬ (sV (sa, sl, sc)).ownBlock = some ig := fun e => by have := HG.out.own ig e; have h2 := (World.block_lt_of_cell? _ _ (show wz.cell? ⟨ig, i, none⟩ = _ from HZ.out)); simp only at h2; have : wz.drew.heap.size = wz.heap.size := rfl; omega
              have hpw : p ≠ wz.heap.size := fun e => by have := World.block_lt_of_cell? _ _ HP0.out; simp only at this; omega
              have s0 : wy.cell? ⟨p, 0, none⟩ = some (.slice (some ⟨ig, 0, none⟩) n ic) ∧ wy.cell? ⟨ig, k, none⟩ = some (.int .i64 x) := ⟨p0y, k1y⟩
              have s1 : (wy.alloc (.cells #[.int .i64 x] 3)).drew.cell? ⟨p, 0, none⟩ = some (.slice (some ⟨ig, 0, none⟩) n ic) ∧ (wy.alloc (.cells #[.int .i64 x] 3)).drew.cell? ⟨ig, k, none⟩ = some (.int .i64 x) := ⟨cell_lat ((Below.refl _ wy).alloc (Nat.le_refl _) _).drew p0y, cell_lat ((Below.refl _ wy).alloc (Nat.le_refl _) _).drew k1y⟩
              have s2 : w1.cell? ⟨p, 0, none⟩ = some (.slice (some ⟨ig, 0, none⟩) n ic) ∧ w1.cell? ⟨ig, k, none⟩ = some (.int .i64 x) := ⟨cell_stay st1' hpn p0y, cell_stay st1' hin2 k1y⟩
              have s3 : (w1.setCell ⟨wz.heap.size, 0, none⟩ (.slice ta tl tc)).cell? ⟨p, 0, none⟩ = some (.slice (some ⟨ig, 0, none⟩) n ic) ∧ (w1.setCell ⟨wz.heap.size, 0, none⟩ (.slice ta tl tc)).cell? ⟨ig, k, none⟩ = some (.int .i64 x) := ⟨(World.cell?_setCell_far w1 ⟨wz.heap.size, 0, none⟩ ⟨p, 0, none⟩ _ (fun e => hpw e.symm)).trans s2.1, (World.cell?_setCell_far w1 ⟨wz.heap.size, 0, none⟩ ⟨ig, k, none⟩ _ (fun e => hig e.symm)).trans s2.2⟩
              have gA0 : (wy.alloc (.cells #[.int .i64 x] 3)).drew.cell? ⟨wz.heap.size, 0, none⟩ = some (.slice sa sl sc) := cell_lat ((Below.refl _ wy).alloc (Nat.le_refl _) _).drew g0y
              have hap : (Builtin.append_ #[22, 22] 22 #[.slice sa sl sc, .slice (some ⟨wy.heap.size, 0, none⟩) 1 1]).run Try.prog (wy.alloc (.cells #[.int .i64 x] 3)).drew = .ok (.slice ta tl tc) w1 := hap
              clear hwy HGy hrk hks tk hx hy1 HEQ G1 st1 st1' hpn hin2 hU hig hpw
              go_wp2
              go_region
              rw [HWY.out]
              go_wp2
              refine wp_region_held_drew (S := fun w' => w'.cell? ⟨p, 0, none⟩ = some (.slice (some ⟨ig, 0, none⟩) n ic) ∧ w'.cell? ⟨ig, k, none⟩ = some (.int .i64 x)) (by kernel_rfl) ?_ (fun hHeld => ?_)
              · exact s0
              refine wpAnyH_take (i := 0) (oi := { dst := some 57, op := Op.fieldAddr 53 (Operand.tmp 7) 0, type := 0, pos := "group.go:92", after := #[], guard := none }) (v := ?vr0) rfl (by kernel_rfl) (by kernel_rfl) (by kernel_rfl) (fun _ _ _ h => h) (Or.inl ⟨by rfl, ?hr0⟩) (by assumption) ?rr0
              case hr0 => (intro w0 hSw; (try dsimp only at hSw); go_simp; try (with_reducible rfl))
              simp only [Act.put, List.setIfInBounds_toArray, List.set_cons_zero, List.set_cons_succ]
              refine wpAnyH_take (i := 2) (oi := { dst := some 59, op := Op.move (Operand.tmp 0), type := 28, pos := "group.go:92", after := #[], guard := none }) (v := ?vr2) rfl (by kernel_rfl) (by kernel_rfl) (by kernel_rfl) (fun _ _ _ h => h) (Or.inl ⟨by rfl, ?hr2⟩) (by assumption) ?rr2
              case hr2 => (intro w0 hSw; (try dsimp only at hSw); go_simp; try (with_reducible rfl))
              simp only [Act.put, List.setIfInBounds_toArray, List.set_cons_zero, List.set_cons_succ]
              refine wpAnyH_take (i := 3) (oi := { dst := some 60, op := Op.nilCheck (Operand.tmp 59), type := 0, pos := "group.go:92", after := #[{ on := 2, ground := Ground.data }], guard := none }) (v := ?vr3) rfl (by kernel_rfl) (by kernel_rfl) (by kernel_rfl) (fun _ _ _ h => h) (Or.inl ⟨by rfl, ?hr3⟩) (by assumption) ?rr3
              case hr3 => (intro w0 hSw; (try dsimp only at hSw); go_simp; try (with_reducible rfl))
              simp only [Act.put, List.setIfInBounds_toArray, List.set_cons_zero, List.set_cons_succ]
              refine wpAnyH_take (i := 4) (oi := { dst := some 61, op := Op.fieldAddr 50 (Operand.tmp 60) 0, type := 0, pos := "group.go:92", after := #[{ on := 3, ground := Ground.data }], guard := none }) (v := ?vr4) rfl (by kernel_rfl) (by kernel_rfl) (by kernel_rfl) (fun _ _ _ h => h) (Or.inl ⟨by rfl, ?hr4⟩) (by assumption) ?rr4
              case hr4 => (intro w0 hSw; (try dsimp only at hSw); go_simp; try (with_reducible rfl))
              simp only [Act.put, List.setIfInBounds_toArray, List.set_cons_zero, List.set_cons_succ]
              refine wpAnyH_take (i := 5) (oi := { dst := some 62, op := Op.load 22 (Operand.tmp 61), type := 22, pos := "group.go:92", after := #[{ on := 4, ground := Ground.data }], guard := none }) (v := ?vr5) rfl (by kernel_rfl) (by kernel_rfl) (by kernel_rfl) (fun _ _ _ h => h) (Or.inl ⟨by rfl, ?hr5⟩) (by assumption) ?rr5
              case hr5 => (intro w0 hSw; (try dsimp only at hSw); go_simp; try (with_reducible rfl))
              simp only [Act.put, List.setIfInBounds_toArray, List.set_cons_zero, List.set_cons_succ]
              refine wpAnyH_take (i := 6) (oi := { dst := some 63, op := Op.move (Operand.tmp 8), type := 3, pos := "group.go:92", after := #[], guard := none }) (v := ?vr6) rfl (by kernel_rfl) (by kernel_rfl) (by kernel_rfl) (fun _ _ _ h => h) (Or.inl ⟨by rfl, ?hr6⟩) (by assumption) ?rr6
              case hr6 => (intro w0 hSw; (try dsimp only at hSw); go_simp; try (with_reducible rfl))
              simp only [Act.put, List.setIfInBounds_toArray, List.set_cons_zero, List.set_cons_succ]
              refine wpAnyH_take (i := 7) (oi := { dst := some 64, op := Op.indexAddr 22 (Operand.tmp 62) (Operand.tmp 63), type := 0, pos := "group.go:92", after := #[{ on := 5, ground := Ground.data }, { on := 6, ground := Ground.data }], guard := none }) (v := ?vr7) rfl (by kernel_rfl) (by kernel_rfl) (by kernel_rfl) (fun _ _ _ h => h) (Or.inl ⟨by rfl, ?hr7⟩) (by assumption) ?rr7
              case hr7 => (intro w0 hSw; (try dsimp only at hSw); go_simp; try (with_reducible rfl))
              simp only [Act.put, List.setIfInBounds_toArray, List.set_cons_zero, List.set_cons_succ]
              refine wpAnyH_take (i := 8) (oi := { dst := some 65, op := Op.load 3 (Operand.tmp 64), type := 3, pos := "group.go:92", after := #[{ on := 7, ground := Ground.data }], guard := none }) (v := ?vr8) rfl (by kernel_rfl) (by kernel_rfl) (by kernel_rfl) (fun _ _ _ h => h) (Or.inl ⟨by rfl, ?hr8⟩) (by assumption) ?rr8
              case hr8 => (intro w0 hSw; (try dsimp only at hSw); go_simp; try (with_reducible rfl))
              simp only [Act.put, List.setIfInBounds_toArray, List.set_cons_zero, List.set_cons_succ]
              refine wpAnyH_ready (rs := [1, 9]) (by kernel_rfl) (by simp) ?_
              refine AllReadyH.cons rfl (fun K hK => ?_) (AllReadyH.cons rfl (fun K hK => ?_) AllReadyH.nil)
              · go_simp
                go_wp2_with (fail)
                refine hK.out _ _ ?_ (fun hHeld => ?_)
                · exact s0
                clear hK K
                refine wpAnyH_ready (rs := [9]) (by kernel_rfl) (by simp) ?_
                refine AllReadyH.cons rfl (fun K hK => ?_) AllReadyH.nil
                go_simp
                go_wp2_with (fail)
                refine hK.out _ _ ?_ (fun hHeld => ?_)
                · exact s1
                clear hK K
                refine wpAnyH_ready (rs := [10]) (by kernel_rfl) (by simp) ?_
                refine AllReadyH.cons rfl (fun K hK => ?_) AllReadyH.nil
                rw [if_pos (by rfl)]
                refine oper_append_eq _ _ _ _ rfl _ _ _ _ rfl rfl hap ?_
                go_simp
                refine hK.out _ _ ?_ (fun hHeld => ?_)
                · exact s2
                clear hK K
                refine wpAnyH_take (i := 11) (oi := { dst := some 68, op := Op.fieldAddr 53 (Operand.tmp 7) 0, type := 0, pos := "group.go:92", after := #[{ on := 0, ground := Ground.phase }, { on := 1, ground := Ground.phase }, { on := 2, ground := Ground.phase }, { on := 3, ground := Ground.phase }, { on := 4, ground := Ground.phase }, { on := 5, ground := Ground.phase }, { on := 6, ground := Ground.phase }, { on := 7, ground := Ground.phase }, { on := 8, ground := Ground.phase }, { on := 9, ground := Ground.phase }, { on := 10, ground := Ground.phase }], guard := none }) (v := ?vra11) rfl (by kernel_rfl) (by kernel_rfl) (by kernel_rfl) (fun _ _ _ h => h) (Or.inl ⟨by rfl, ?hra11⟩) (by assumption) ?rra11
                case hra11 => (intro w0 hSw; (try dsimp only at hSw); go_simp; try (with_reducible rfl))
                simp only [Act.put, List.setIfInBounds_toArray, List.set_cons_zero, List.set_cons_succ]
                refine wpAnyH_ready (rs := [12]) (by kernel_rfl) (by simp) ?_
                refine AllReadyH.cons rfl (fun K hK => ?_) AllReadyH.nil
                go_simp
                go_wp2_with (fail)
                refine hK.out _ _ ?_ (fun hHeld => ?_)
                · exact s3
                clear hK K
                refine wpAnyH_done (by kernel_rfl) ?_ _
                go_wp2
                go_roundw
                case rel => exact ⟨(ta, tl, tc), k + 1, by go_num, by omega, H1⟩
                case measure => simp [intOf]; omega
              · go_simp
                go_wp2_with (fail)
                refine hK.out _ _ ?_ (fun hHeld => ?_)
                · exact s1
                clear hK K
                refine wpAnyH_ready (rs := [1]) (by kernel_rfl) (by simp) ?_
                refine AllReadyH.cons rfl (fun K hK => ?_) AllReadyH.nil
                go_simp
                go_wp2_with (fail)
                refine hK.out _ _ ?_ (fun hHeld => ?_)
                · exact s1
                clear hK K
                refine wpAnyH_ready (rs := [10]) (by kernel_rfl) (by simp) ?_
                refine AllReadyH.cons rfl (fun K hK => ?_) AllReadyH.nil
                rw [if_pos (by rfl)]
                refine oper_append_eq _ _ _ _ rfl _ _ _ _ rfl rfl hap ?_
                go_simp
                refine hK.out _ _ ?_ (fun hHeld => ?_)
                · exact s2
                clear hK K
                refine wpAnyH_take (i := 11) (oi := { dst := some 68, op := Op.fieldAddr 53 (Operand.tmp 7) 0, type := 0, pos := "group.go:92", after := #[{ on := 0, ground := Ground.phase }, { on := 1, ground := Ground.phase }, { on := 2, ground := Ground.phase }, { on := 3, ground := Ground.phase }, { on := 4, ground := Ground.phase }, { on := 5, ground := Ground.phase }, { on := 6, ground := Ground.phase }, { on := 7, ground := Ground.phase }, { on := 8, ground := Ground.phase }, { on := 9, ground := Ground.phase }, { on := 10, ground := Ground.phase }], guard := none }) (v := ?vrb11) rfl (by kernel_rfl) (by kernel_rfl) (by kernel_rfl) (fun _ _ _ h => h) (Or.inl ⟨by rfl, ?hrb11⟩) (by assumption) ?rrb11
                case hrb11 => (intro w0 hSw; (try dsimp only at hSw); go_simp; try (with_reducible rfl))
                simp only [Act.put, List.setIfInBounds_toArray, List.set_cons_zero, List.set_cons_succ]
                refine wpAnyH_ready (rs := [12]) (by kernel_rfl) (by simp) ?_
                refine AllReadyH.cons rfl (fun K hK => ?_) AllReadyH.nil
                go_simp
                go_wp2_with (fail)
                refine hK.out _ _ ?_ (fun hHeld => ?_)
                · exact s3
                clear hK K
                refine wpAnyH_done (by kernel_rfl) ?_ _
                go_wp2
                go_roundw
                case rel => exact ⟨(ta, tl, tc), k + 1, by go_num, by omega, H1⟩
                case measure => simp [intOf]; omega
            · have hb2 : (y1 == x2) = false := by simpa using fun e => hrk (HEQ.out.1 e)
              have H1 : Hid (GI wz.drew wr.drew s (idsG S (grp (k + 1) R i))) := Hid.mk (by rw [idsG_skip S R i k hrk]; exact HG.out.drew)
              clear hrk hks tk hx hy1 HEQ hU
              go_wp2
              go_region
              go_wp2
              go_roundw
              case rel => exact ⟨s, k + 1, by go_num, by omega, H1⟩
              case measure => simp [intOf]; omega
          · have hkl' : ¬ (k : Int) < (n : Int) := by omega
            have HG2 : Hid (GI wz.drew wr s (idsG S (grp S.length R i))) := Hid.mk (by have := HG.out; rw [show k = n by omega, ← HU.out.2] at this; exact this)
            obtain ⟨sa, sl, sc⟩ := s
            have hsl : sl = (idsG S (grp S.length R i)).length := by obtain ⟨a', c', e, -⟩ := El.Row.form HG2.out.row; injection e
            have g0 : wr.cell? ⟨wz.heap.size, 0, none⟩ = some (.slice sa sl sc) := g0
            have hGL := HI.out.1.below (chain (b_drew wz) HG2.out.st (Nat.le_refl _))
            have HSL := Hid.mk hsl
            clear hsl HG hU
            by_cases hle : least ≤ (sl : Int)
            · have hq : least ≤ ((idsG S (grp S.length R i)).length : Int) := by rw [← HSL.out]; exact hle
              obtain ⟨v5, w5, hap, ho5, st5, loc5⟩ := El.app1 gOk wr ss vo hGL.row (sa, sl, sc) (by show (ss.length + 1) * 24 ≤ _; have := oL_len S R least i; rw [hGL.len]; omega) (by have := oL_len S R least i; rw [hGL.len]; omega)
              have hN := hGL.push (sa, sl, sc) _ HG2.out.row (fun b hb => ⟨by have := HG2.out.own b hb; have := HI.out.2.size; have : wz.drew.heap.size = wz.heap.size := rfl; omega, fun hin => by
                obtain ⟨j, hj, e⟩ := hin
                have h1 := row_lt (HI.out.1.each j hj (by rw [← HI.out.1.len]; exact hj)) e
                have h2 := HG2.out.own b hb
                have : wz.drew.heap.size = wz.heap.size := rfl
                omega⟩) HBZ.out.size ho5 st5 loc5
              rw [← oL_yes S R least i HR.out.1 hq] at hN
              have bN : Below w.heap.size w w5 := HBZ.out.trans (Stay.toBelow st5 (fun k hk e => by have := HI.out.1.lo k e; omega) HBZ.out.size)
              obtain ⟨ao, co, hao, -⟩ := El.Row.form hGL.row
              have hap : (Builtin.append_ #[33, 33] 33 #[vo, .slice (some ⟨wr.heap.size, 0, none⟩) 1 1]).run Try.prog (wr.alloc (.cells #[.slice sa sl sc] 53)) = .ok v5 w5 := hap
              have HN := Hid.mk (And.intro hN bN)
              clear hN bN ho5 st5 loc5 hGL hq hao hkl
              go_wp2_with (first
                | (at_builtin; refine wpList_append_eq rfl _ _ 33 33 rfl _ _ _ _ rfl rfl hap ?_; clear hap)
                | fail)
              go_roundw
              case rel => exact ⟨_, _, i + 1, rfl, by go_num, by omega, HN⟩
              case measure => simp [intOf]; omega
            · have hq : ¬ least ≤ ((idsG S (grp S.length R i)).length : Int) := by rw [← HSL.out]; exact hle
              have HN : Hid (GL w.heap.size wr vo ss (oL S R least (i + 1)) ∧ Below w.heap.size w wr) := Hid.mk ⟨by rw [oL_no S R least i HR.out.1 hq]; exact hGL, HBZ.out⟩
              clear hGL hq hkl
              go_wp2
              go_roundw
              case rel => exact ⟨_, _, i + 1, rfl, by go_num, by omega, HN⟩
              case measure => simp [intOf]; omega
      · have hb : (x1 != x2) = true := by simpa using fun e => hr (HEQ.out.1 e)
        have HN : Hid (GL w.heap.size wr.drew vo ss (oL S R least (i + 1)) ∧ Below w.heap.size w wr.drew) := ⟨by rw [oL_skip S R least i hr]; exact HI.out.1.below (b_drew wr), HI.out.2.drew⟩
        clear hr hil ti e2 e3 e5 e6 HEQ hx1 hx2 hU
        go_wp2
        go_region
        go_wp2
        go_roundw
        case rel => exact ⟨_, ss, i + 1, rfl, by go_num, by omega, HN⟩
        case measure => simp [intOf]; omega
    · have hlt' : ¬ (i : Int) < (n : Int) := by omega
      have HN : Hid (GL w.heap.size wr vo ss (gA S R least) ∧ Below w.heap.size w wr) := Hid.mk (by have := HI.out; rw [show i = n by omega, ← HU.out.2, oL_n] at this; exact this)
      clear hlt hU
      go_wp2
      go_ret
      unfold GrO
      exact ⟨_, ss, rfl, HN.out.1, HN.out.2⟩
end Go.Proofs.Ytmhifofeobhhgaa
