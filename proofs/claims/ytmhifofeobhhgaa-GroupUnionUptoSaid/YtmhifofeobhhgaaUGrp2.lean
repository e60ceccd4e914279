/-
  DERIVED. The program's Groups, for every union and least.
-/
import Derived.Test.YtmhifofeobhhgaaUDel2
set_option linter.unusedVariables false
set_option linter.unusedSimpArgs false
namespace Go.Proofs.Ytmhifofeobhhgaa
open Go.RowKit Go.Proofs.UnionMath
theorem GL.low {B B' : Nat} {w : World} {v : Value} {ss : List Sl} {L : List (List Int)} (h : GL B w v ss L) (hB : B' ≤ B) : GL B' w v ss L :=
  ⟨h.row, h.len, h.each, fun b hb => Nat.le_trans hB (h.lo b hb), fun j q b hb => Nat.le_trans hB (h.los j q b hb), h.ap⟩
theorem QI.next {w2 W wr' : World} {og n g c : Nat} {ss : List Sl} {S : List Int} {R : Nat → Nat} {m : Nat} {L : List (List Int)} {k : Nat} (h : GL w2.heap.size W (.slice (some ⟨g, 0, none⟩) k c) ss L) (ofr : iE.Row W (.slice (some ⟨og, 0, none⟩) n n) (ofL n R m)) (st : Stay (fun k => k = og) w2 W) (lo : og < w2.heap.size)
    (j : Nat) (hj : j < ss.length) (s' : Sl) (w1 : World) (gl : GL w2.heap.size (w1.setCell ⟨g, j, none⟩ (sV s')) (.slice (some ⟨g, 0, none⟩) k c) (ss.set j s') (aLs S R m)) (st1 : Stay (fun k => (sV ss[j]).ownBlock = some k) W w1) (hw : wr' = w1.setCell ⟨g, j, none⟩ (sV s')) : QI w2 wr' og n (.slice (some ⟨g, 0, none⟩) k c) (ss.set j s') S R m := by
  subst hw
  have hg : w2.heap.size ≤ g := h.lo g rfl
  have s2 : Stay (fun k => k = g) w1 (w1.setCell ⟨g, j, none⟩ (sV s')) := Stay.setCell (F := fun k => k = g) (p := ⟨g, j, none⟩) (Stay.refl _ w1) (fun _ => rfl) _
  have o1 := row_kept ofr st1 (fun k hk e => by cases hk; have := h.los j hj og e; omega)
  refine ⟨gl, row_kept o1 s2 (fun k hk e => by cases hk; have e' : og = g := e; omega), (st.andThen st1 (fun k hk e => by have := h.los j hj k e; omega)).andThen s2 (fun k hk e => by omega), lo⟩
set_option maxHeartbeats 8000000 in
set_option maxRecDepth 100000 in
theorem groups_any (p mb ag : Nat) (iv : Value) (S : List Int) (R : Nat → Nat) (least : Int) (w : World) (h : PU w p mb ag iv S R) :
    Calls Try.prog 8 #[Pt p, .int .i64 least] w (GrO w (gA S R least)) := by
  obtain ⟨A, hAr, hU⟩ := h.abv
  obtain ⟨ai, ic, hiv, -⟩ := h.row.form
  have hfew := h.ids.few
  have hcell := h.cells
  obtain ⟨n, hn⟩ : ∃ n, S.length = n := ⟨_, rfl⟩
  rw [hn] at hiv hfew hcell hAr hU
  have bB : Below w.heap.size w (w.alloc (.cells #[.int .i64 least] 3)) := (Below.refl _ w).alloc (Nat.le_refl _) _
  obtain ⟨w2, hmk, hofr, b2, hsz⟩ := El.make iOk (w.alloc (.cells #[.int .i64 least] 3)) 0 rfl n (by omega)
  have hsz1 : (w.alloc (.cells #[.int .i64 least] 3)).heap.size = w.heap.size + 1 := by simp
  rw [hsz1] at hmk hofr hsz b2
  have bW : Below w.heap.size w w2 := bB.trans (b2.mono (by omega))
  have hlc : (w.alloc (.cells #[.int .i64 least] 3)).cell? ⟨w.heap.size, 0, none⟩ = some (.int .i64 least) := by
    have hb := heap_alloc_last w (.cells #[.int .i64 least] 3)
    unfold World.cell?
    simp only
    rw [hb]; rfl
  have hlc2 : w2.cell? ⟨w.heap.size, 0, none⟩ = some (.int .i64 least) := (b2.cell (p := ⟨w.heap.size, 0, none⟩) (by show w.heap.size < w.heap.size + 1; omega)).trans hlc
  have Q0 : QI w2 w2 (w.heap.size + 1) n (.slice none 0 0) [] S R 0 := QI.begin hofr
  have hag : ag < w.heap.size := row_lt hAr (k := ag) rfl
  have hp : p < w.heap.size := World.block_lt_of_cell? _ _ hcell.1
  have cA : ∀ k, k < n → w2.cell? ⟨ag, k, none⟩ = some (.int .i64 (A k : Nat)) := fun k hk => by
    have := (i_cell' hAr k (by rw [aL_len]; exact hk)).1
    rw [aL_get] at this
    exact cell_lat bW this
  have cS : ∀ k (hk : k < n), ∃ g, ai = some ⟨g, 0, none⟩ ∧ g < w.heap.size ∧ w2.cell? ⟨g, k, none⟩ = some (.int .i64 (S.getD k 0)) := fun k hk => by
    obtain ⟨g, cap, e, k0, -⟩ := i_cell h.row k (by rw [hn]; exact hk)
    rw [hiv] at e
    injection e with e1
    refine ⟨g, e1, World.block_lt_of_cell? _ _ k0, ?_⟩
    rw [getD_at S k (by rw [hn]; exact hk)]
    exact cell_lat bW k0
  have c0 : (w.alloc (.cells #[.int .i64 least] 3)).cell? ⟨p, 0, none⟩ = some (.slice ai n ic) := by rw [← hiv]; exact cell_lat bB hcell.1
  have d0 : w2.cell? ⟨p, 0, none⟩ = some (.slice ai n ic) := by rw [← hiv]; exact cell_lat bW hcell.1
  have d2 : w2.cell? ⟨p, 2, none⟩ = some (.slice (some ⟨ag, 0, none⟩) n n) := cell_lat bW hcell.2.2
  have H0 := Hid.mk Q0
  have HC := Hid.mk (And.intro cA (And.intro cS (And.intro d2 (And.intro hlc2 (And.intro bW (And.intro hU (And.intro hag (And.intro hp (And.intro hsz hn)))))))))
  clear h hAr hU hiv hcell bB b2 hofr hsz1 bW hlc hlc2 Q0 hag hp cA cS d2 hn hsz
  go_enter Try.func8, Try.ntmps8
  go_wp2_with (first
    | (at_make; refine wpList_make_run _ rfl _ _ _ rfl _ _ hmk ?_; clear hmk)
    | fail)
  obtain ⟨og, hog⟩ : ∃ og, w.heap.size + 1 = og := ⟨_, rfl⟩
  rw [hog] at H0
  try rw [hog]
  go_loopw [5, 23] (fun o u wr => ∃ (vo : Value) (ss : List Sl) (m : Nat), o = vo ∧ u = .int .i64 m ∧ m ≤ n ∧ Hid (QI w2 wr og n vo ss S R m)) (fun _ u _ => n - (intOf u).toNat)
  case atStart => exact ⟨_, [], 0, rfl, rfl, Nat.zero_le _, H0⟩
  case round =>
    obtain ⟨vo, ss, m, hvo, rfl, hmn, HI⟩ := hrel
    replace hvo := hvo.symm
    subst hvo
    clear H0 c0 d0
    by_cases hlt : m < n
    · have hlt' : (m : Int) < (n : Int) := by omega
      obtain ⟨cA, cS, d2, -, bW, hU, hag, hp, hsz, hn⟩ := HC.out
      obtain ⟨ig, hai, hig, cSm⟩ := cS m hlt
      have nog : ∀ k, k < w.heap.size → ¬ k = og := fun k hk e => by omega
      have e2 : wr.cell? ⟨p, 2, none⟩ = some (.slice (some ⟨ag, 0, none⟩) n n) := cell_stay HI.out.st (nog p hp) d2
      have eA : wr.cell? ⟨ag, m, none⟩ = some (.int .i64 (A m : Nat)) := cell_stay HI.out.st (nog ag hag) (cA m hlt)
      have eS : wr.cell? ⟨ig, m, none⟩ = some (.int .i64 (S.getD m 0)) := cell_stay HI.out.st (nog ig hig) cSm
      subst hai
      have am := hU.le m hlt
      have ar := hU.rr m hlt
      have atop := hU.top m hlt
      obtain ⟨o0, of0⟩ := i_cell' HI.out.ofr m (by rw [ofL_len]; exact hlt)
      rw [ofL_get, if_neg (by omega)] at o0
      have wm : IntKind.i64.wrap ((m : Int) + 1) = ((m + 1 : Nat) : Int) := i64_in _ (by omega) (by omega)
      obtain ⟨x, hx⟩ : ∃ x, x = S.getD m 0 := ⟨_, rfl⟩
      rw [← hx] at eS
      have hlen := HI.out.gl.len
      rw [aLs_len] at hlen
      by_cases hr : R m = m
      · have ha : A m = m := atop.2 hr
        rw [ha] at eA
        obtain ⟨g1, r1, s1⟩ := HI.out.setOf hlt (ss.length : Int) (by rw [hr, hlen])
        obtain ⟨ao, co, hao, -⟩ := HI.out.gl.row.form
        obtain ⟨V1, hV1⟩ : ∃ V1, V1 = wr.setCell ⟨og, m, none⟩ (.int .i64 (ss.length : Int)) := ⟨_, rfl⟩
        rw [← hV1] at g1 r1 s1
        have hroots := roots_len m R
        obtain ⟨v3, w3, hap3, ho3, st3, loc3⟩ := El.app1 gOk V1 ss vo g1.row (none, 0, 0) (by show (ss.length + 1) * 24 ≤ _; omega) (by omega)
        have hBV : w2.heap.size ≤ V1.heap.size := s1.size
        have GL3 := g1.push (none, 0, 0) [] (El.Row.nil iE V1) (fun b hb => by cases hb) hBV ho3 st3 loc3
        have r3 := row_kept r1 st3 (fun k hk e => by cases hk; have := g1.lo og e; have := HI.out.lo; omega)
        have s3 := s1.andThen st3 (fun k hk e => by have := g1.lo k e; omega)
        obtain ⟨g3, c3, hv3, -⟩ := El.cells gOk ho3 ss.length (by simp)
        rw [List.length_append] at hv3
        simp only [List.length_cons, List.length_nil, Nat.zero_add] at hv3
        subst hv3
        have hjl : ss.length < (ss ++ [((none, 0, 0) : Sl)]).length := by simp
        have hjl2 : ss.length < (aLs S R m ++ [[]]).length := by rw [List.length_append, aLs_len, ← hlen]; simp
        have hgj : (aLs S R m ++ [[]])[ss.length] = ([] : List Int) := by rw [List.getElem_append_right (by rw [aLs_len, ← hlen]; exact Nat.le_refl _)]; simp
        obtain ⟨x0, xf, s', w5, hap5, g5, st5, y0, yf⟩ := gl_app GL3 ss.length hjl hjl2 x s3.size (by rw [hgj]; simp)
        have hsj : (ss ++ [((none, 0, 0) : Sl)])[ss.length] = (none, 0, 0) := by simp
        rw [hgj] at g5
        rw [hx, hlen, ← aLs_new hU hlt hr, ← hlen] at g5
        have QN := QI.next (m := m + 1) (S := S) GL3 r3 s3 HI.out.lo ss.length hjl s' w5 g5 st5 rfl
        rw [hsj] at x0 hap5 y0
        have z0 := (i_cell' r3 m (by rw [ofL_len]; exact hlt)).1
        rw [ofL_get, if_pos (by omega), hr, ← hlen] at z0
        obtain ⟨ta, tl, tc⟩ := s'
        have HQ := Hid.mk QN
        obtain ⟨k, hk⟩ : ∃ k, k = ss.length := ⟨_, rfl⟩
        rw [← hk] at hao hV1 x0 xf y0 yf z0 HQ hap3
        have hk20 : k ≤ 1048576 := by omega
        have hV1' := hV1.symm
        have hap3 : (Builtin.append_ #[33, 33] 33 #[vo, .slice (some ⟨V1.heap.size, 0, none⟩) 1 1]).run Try.prog (V1.alloc (.cells #[.slice none 0 0] 53)) = .ok (.slice (some ⟨g3, 0, none⟩) (k + 1) c3) w3 := hap3
        rw [hao] at hap3
        simp only [sV] at x0 y0 hap5
        have hk1 : (k : Int) < ((k + 1 : Nat) : Int) := by omega
        have hk2 : (k : Int) < (k : Int) + 1 := by omega
        subst hao
        clear g1 r1 s1 ho3 st3 loc3 GL3 r3 s3 hjl hjl2 hgj g5 st5 hsj QN HI cA cS d2 hU hV1 am ar atop hr ha hlen hx hroots hk hBV nog
        go_wp2_with (first
          | (at_builtin; (try rw [hV1']); refine wpList_append_eq rfl _ _ 33 33 rfl _ _ _ _ rfl rfl hap3 ?_; clear hap3)
          | (at_builtin; refine wpList_append_eq rfl _ _ 22 22 rfl _ _ _ _ rfl rfl hap5 ?_; clear hap5)
          | fail)
        go_roundw
        case rel => exact ⟨_, _, m + 1, rfl, by go_num, by omega, HQ⟩
        case measure => simp [intOf]; omega
      · have ha : ¬ A m = m := fun e => hr (atop.1 e)
        obtain ⟨jl, eold⟩ := aLs_old (S := S) hU hlt hr
        obtain ⟨j, hj⟩ : ∃ j, j = (roots (R m) R).length := ⟨_, rfl⟩
        rw [← hj] at jl
        have eold' : aLs S R (m + 1) = (aLs S R m).set j ((aLs S R m)[j] ++ [S.getD m 0]) := by subst hj; exact eold
        have hjs : j < ss.length := by rw [hlen, ← aLs_len S R m]; exact jl
        have z1 := (i_cell' HI.out.ofr (A m) (by rw [ofL_len]; omega)).1
        rw [ofL_get, if_pos (by omega), ar, ← hj] at z1
        obtain ⟨g1, r1, s1⟩ := HI.out.setOf hlt (j : Int) (by rw [hj])
        obtain ⟨g3, c3, hv3, -⟩ := El.cells gOk HI.out.gl.row j hjs
        subst hv3
        obtain ⟨V1, hV1⟩ : ∃ V1, V1 = wr.setCell ⟨og, m, none⟩ (.int .i64 (j : Int)) := ⟨_, rfl⟩
        rw [← hV1] at g1 r1 s1
        have hroots := roots_len m R
        have hll : (aLs S R m)[j].length ≤ 1048576 := by
          have : (aLs S R m)[j] = idsG S (grp m R ((roots m R)[j]'(by rw [← hlen]; exact hjs))) := by simp [aLs, grps]
          rw [this]
          exact Nat.le_trans (idsG_len S R _ m) (by omega)
        obtain ⟨x0, xf, s', w5, hap5, g5, st5, y0, yf⟩ := gl_app g1 j hjs jl x s1.size hll
        rw [hx, ← eold'] at g5
        have QN := QI.next (m := m + 1) (S := S) g1 r1 s1 HI.out.lo j hjs s' w5 g5 st5 rfl
        have z0 := (i_cell' r1 m (by rw [ofL_len]; exact hlt)).1
        rw [ofL_get, if_pos (by omega), ← hj] at z0
        obtain ⟨ta, tl, tc⟩ := s'
        obtain ⟨q, hq⟩ : ∃ q, q = ss[j] := ⟨_, rfl⟩
        rw [← hq] at x0 hap5 y0
        obtain ⟨qa, ql, qc⟩ := q
        have HQ := Hid.mk QN
        obtain ⟨k, hk⟩ : ∃ k, k = ss.length := ⟨_, rfl⟩
        rw [← hk] at hjs
        rw [← hk] at HQ ⊢
        have hV1' := hV1.symm
        simp only [sV] at x0 y0 hap5
        have hjk : (j : Int) < (k : Int) := by omega
        obtain ⟨am2, ham2⟩ : ∃ am2, am2 = A m := ⟨_, rfl⟩
        rw [← ham2] at eA z1 ha am
        have hb : ((am2 : Int) == (m : Int)) = false := beq_eq_false_iff_ne.2 (by omega)
        have ham3 : (am2 : Int) < (n : Int) := by omega
        clear g1 r1 s1 g5 st5 QN HI cA cS d2 hU hV1 ar atop hr hlen hx hroots eold eold' jl hll hj ham2 hq hk nog
        go_wp2_with (first
          | (at_builtin; (try rw [hV1']); refine wpList_append_eq rfl _ _ 22 22 rfl _ _ _ _ rfl rfl hap5 ?_; clear hap5)
          | fail)
        go_roundw
        case rel => exact ⟨_, _, m + 1, rfl, by go_num, by omega, HQ⟩
        case measure => simp [intOf]; omega
    · have hlt' : ¬ (m : Int) < (n : Int) := by omega
      obtain ⟨-, -, -, hlc, bW, -, -, -, hsz, hn⟩ := HC.out
      have hmn' : m = S.length := by omega
      have hroots := roots_len m R
      have hlen := HI.out.gl.len
      rw [aLs_len] at hlen
      have hBw : w2.heap.size ≤ wr.heap.size := HI.out.st.size
      have hlw : wr.cell? ⟨w.heap.size, 0, none⟩ = some (.int .i64 least) := cell_stay HI.out.st (fun e => by omega) hlc
      have hD := delete_any w2.heap.size least w.heap.size vo ss (aLs S R m) wr HI.out.gl hlw (by omega) hBw (by omega)
      have HF : Hid (∀ w', (∃ v ss', GL w2.heap.size w' v ss' ((aLs S R m).filter (fun X => decide (least ≤ (X.length : Int)))) ∧ Below w2.heap.size wr w') → Below w.heap.size w w') := fun w' q => by
        obtain ⟨_, _, _, b⟩ := q
        exact (bW.trans (Stay.toBelow HI.out.st (fun k hk e => by omega) bW.size)).trans (b.mono (by omega))
      have HE : Hid ((aLs S R m).filter (fun X => decide (least ≤ (X.length : Int))) = gA S R least) := Hid.mk (by unfold aLs gA; rw [hmn'])
      have HL : Hid (w.heap.size ≤ w2.heap.size) := bW.size
      clear hlc bW hn hmn' hroots hlen hBw hlw HI hlt hsz
      go_wp2_with (go_at_call 17; refine hD.mono ?_; clear hD; intro e w' hO; unfold DeO at hO; obtain ⟨v', ss', rfl, g', b'⟩ := hO; have HG := Hid.mk (And.intro g' b'); clear g' b')
      go_ret
      unfold GrO
      exact ⟨_, ss', rfl, by rw [← HE.out]; exact HG.out.1.low HL.out, HF.out w' ⟨_, ss', HG.out.1, HG.out.2⟩⟩
end Go.Proofs.Ytmhifofeobhhgaa
