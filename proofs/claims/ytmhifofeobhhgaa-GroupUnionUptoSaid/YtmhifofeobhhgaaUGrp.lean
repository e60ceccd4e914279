/-
  DERIVED. The program's Groups, up to what it strikes out.
-/
import Derived.Test.YtmhifofeobhhgaaURef3
set_option linter.unusedVariables false
set_option linter.unusedSimpArgs false
namespace Go.Proofs.Ytmhifofeobhhgaa
open Go.RowKit Go.Proofs.UnionMath
/-- The groups of the first places. -/
def aLs (S : List Int) (R : Nat → Nat) (m : Nat) : List (List Int) := (grps m R).map (idsG S)
theorem aLs_len (S : List Int) (R : Nat → Nat) (m : Nat) : (aLs S R m).length = (roots m R).length := by unfold aLs grps; rw [List.length_map, List.length_map]
def ofL (n : Nat) (R : Nat → Nat) (m : Nat) : List Int := (List.range n).map (fun k => if k < m then ((roots (R k) R).length : Int) else 0)
theorem ofL_len (n : Nat) (R : Nat → Nat) (m : Nat) : (ofL n R m).length = n := by simp [ofL]
theorem ofL_get (n : Nat) (R : Nat → Nat) (m k : Nat) (h : k < (ofL n R m).length) : (ofL n R m)[k] = if k < m then ((roots (R k) R).length : Int) else 0 := by simp [ofL]
theorem ofL_0 (n : Nat) (R : Nat → Nat) : ofL n R 0 = List.replicate n 0 := by
  apply List.ext_getElem
  · simp [ofL]
  · intro k h1 h2; rw [ofL_get]; simp
theorem ofL_set (n : Nat) (R : Nat → Nat) (m : Nat) : (ofL n R m).set m ((roots (R m) R).length : Int) = ofL n R (m + 1) := by
  apply List.ext_getElem
  · simp [ofL]
  · intro k h1 h2
    rw [List.getElem_set, ofL_get n R (m + 1) k h2]
    by_cases e : m = k
    · subst e; rw [if_pos rfl, if_pos (by omega)]
    · rw [if_neg e, ofL_get]
      by_cases g : k < m
      · rw [if_pos g, if_pos (by omega)]
      · rw [if_neg g, if_neg (by omega)]
theorem idsG_snoc (S : List Int) (g : List Nat) (p : Nat) : idsG S (g ++ [p]) = idsG S g ++ [S.getD p 0] := by simp [idsG]
theorem aLs_new {S : List Int} {n p : Nat} {R A : Nat → Nat} (h : Up n A R) (hp : p < n) (e : R p = p) : aLs S R (p + 1) = (aLs S R p ++ [[]]).set (roots p R).length ([] ++ [S.getD p 0]) := by
  have hl := aLs_len S R p
  unfold aLs at hl ⊢
  rw [grps_new h hp e, List.map_append]
  rw [List.set_append_right _ _ (by rw [hl]; exact Nat.le_refl _), hl, Nat.sub_self]
  rfl
theorem aLs_old {S : List Int} {n p : Nat} {R A : Nat → Nat} (h : Up n A R) (hp : p < n) (e : R p ≠ p) : ∃ (hj : (roots (R p) R).length < (aLs S R p).length), aLs S R (p + 1) = (aLs S R p).set (roots (R p) R).length ((aLs S R p)[(roots (R p) R).length] ++ [S.getD p 0]) := by
  obtain ⟨hj, e1⟩ := grps_old h hp e
  have hj2 : (roots (R p) R).length < (aLs S R p).length := by unfold aLs; rw [List.length_map]; exact hj
  refine ⟨hj2, ?_⟩
  have e2 : (aLs S R p)[(roots (R p) R).length] = idsG S (grps p R)[(roots (R p) R).length] := by simp [aLs]
  rw [e2, ← idsG_snoc]
  unfold aLs
  rw [e1, List.map_set]
/-- What stands while the places are gone through. -/
structure QI (w2 wr : World) (og n : Nat) (vo : Value) (ss : List Sl) (S : List Int) (R : Nat → Nat) (m : Nat) : Prop where
  gl : GL w2.heap.size wr vo ss (aLs S R m)
  ofr : iE.Row wr (.slice (some ⟨og, 0, none⟩) n n) (ofL n R m)
  st : Stay (fun k => k = og) w2 wr
  lo : og < w2.heap.size
theorem QI.begin {w2 : World} {og n : Nat} {S : List Int} {R : Nat → Nat} (h : iE.Row w2 (.slice (some ⟨og, 0, none⟩) n n) (List.replicate n 0)) : QI w2 w2 og n (.slice none 0 0) [] S R 0 :=
  ⟨GL.nil _ _, by rw [ofL_0]; exact h, .refl _ _, row_lt h (k := og) rfl⟩
/-- A number is set among the numbers of groups. -/
theorem QI.setOf {w2 wr : World} {og n : Nat} {vo : Value} {ss : List Sl} {S : List Int} {R : Nat → Nat} {m : Nat} (h : QI w2 wr og n vo ss S R m) (hm : m < n) (x : Int) (hx : x = ((roots (R m) R).length : Int)) :
    GL w2.heap.size (wr.setCell ⟨og, m, none⟩ (.int .i64 x)) vo ss (aLs S R m) ∧ iE.Row (wr.setCell ⟨og, m, none⟩ (.int .i64 x)) (.slice (some ⟨og, 0, none⟩) n n) (ofL n R (m + 1)) ∧ Stay (fun k => k = og) w2 (wr.setCell ⟨og, m, none⟩ (.int .i64 x)) := by
  subst hx
  have s1 : Stay (fun k => k = og) wr (wr.setCell ⟨og, m, none⟩ (.int .i64 ((roots (R m) R).length : Int))) := Stay.setCell (F := fun k => k = og) (p := ⟨og, m, none⟩) (Stay.refl _ wr) (fun _ => rfl) _
  have r1 := i_set h.ofr (by rw [ofL_len]) m (by rw [ofL_len]; exact hm) ((roots (R m) R).length : Int)
  rw [ofL_set] at r1
  refine ⟨h.gl.kept s1 (fun k hk e => ?_) (fun k hk e => ?_), r1, h.st.andThen s1 (fun _ _ h => h)⟩
  · have := h.gl.lo k hk; have := h.lo; omega
  · obtain ⟨j, hj, q⟩ := hk
    have := h.gl.los j hj k q; have := h.lo; omega
/-- One of the lists grows by one. -/
theorem gl_app {B : Nat} {w : World} {g c n : Nat} {ss : List Sl} {L : List (List Int)} (h : GL B w (.slice (some ⟨g, 0, none⟩) n c) ss L) (j : Nat) (hj : j < ss.length) (hj' : j < L.length) (x : Int) (hBw : B ≤ w.heap.size) (hX : L[j].length ≤ 1048576) :
    w.cell? ⟨g, j, none⟩ = some (sV ss[j]) ∧ w.frozen? ⟨g, j, none⟩ = false ∧ ∃ (s' : Sl) (w1 : World), (Builtin.append_ #[22, 22] 22 #[sV ss[j], .slice (some ⟨w.heap.size, 0, none⟩) 1 1]).run Try.prog (w.alloc (.cells #[.int .i64 x] 3)) = .ok (sV s') w1 ∧ GL B (w1.setCell ⟨g, j, none⟩ (sV s')) (.slice (some ⟨g, 0, none⟩) n c) (ss.set j s') (L.set j (L[j] ++ [x])) ∧ Stay (fun k => (sV ss[j]).ownBlock = some k) w w1 ∧ w1.cell? ⟨g, j, none⟩ = some (sV ss[j]) ∧ w1.frozen? ⟨g, j, none⟩ = false := by
  have rr := h.each j hj hj'
  obtain ⟨v', w1, hr, ho, st, loc⟩ := El.app1 iOk w L[j] (sV ss[j]) rr x (by show (L[j].length + 1) * 8 ≤ _; omega) (by omega)
  obtain ⟨a, cc, e, -⟩ := El.Row.form ho
  obtain ⟨g', cap', e', hc, hf⟩ := El.cells gOk h.row j hj
  injection e' with e1 e2 e3
  injection e1 with e1
  injection e1 with e1
  subst e1
  have c0 : w.cell? ⟨g, j, none⟩ = some (sV ss[j]) := by have := hc 0 (sV ss[j]) rfl; simpa [gE] using this
  have ng : ¬ (sV ss[j]).ownBlock = some g := fun q => g_ne h.row rr rfl q
  have hgb : g < w.heap.size := row_lt h.row (k := g) rfl
  refine ⟨c0, hf j, (a, (L[j] ++ [x]).length, cc), w1, by rw [e] at hr; exact hr, h.more j hj hj' (a, (L[j] ++ [x]).length, cc) _ hBw (by rw [e] at ho; exact ho) st (fun k hk => loc k (by rw [e]; exact hk)) rfl, st, cell_stay st ng c0, ?_⟩
  have := st.block g hgb ng
  unfold World.frozen?
  simp only
  rw [this]
  exact hf j
end Go.Proofs.Ytmhifofeobhhgaa
