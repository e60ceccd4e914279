/-
  DERIVED. Join.
-/
import Derived.Test.YtfjbabiobobboaaWrite
import Derived.Test.YtfjbabiobobboaaSplit
namespace Go.Proofs.Ytfjbabiobobboaa
open Go.RowKit Go.Shelf Go.Proofs.BitMath
attribute [local go_sem] Oper.semAt_some
/-- The text made of the values of these chunks. -/
def joinL (x m : Nat) (z : Nat → Int) (js : List Nat) : List UInt8 := js.foldl (fun l j => (wrF (z j).toNat (btC x m j) l ((List.range (btC x m j)).map (frC x m j + ·))).1) (List.replicate (x / 8) 0)
theorem joinL_snoc (x m : Nat) (z : Nat → Int) (js : List Nat) (j : Nat) : joinL x m z (js ++ [j]) = (wrF (z j).toNat (btC x m j) (joinL x m z js) ((List.range (btC x m j)).map (frC x m j + ·))).1 := by unfold joinL; rw [List.foldl_append]; rfl
theorem joinL_length (x m : Nat) (z : Nat → Int) (js : List Nat) : (joinL x m z js).length = x / 8 := by
  unfold joinL
  suffices h : ∀ l : List UInt8, (js.foldl (fun l j => (wrF (z j).toNat (btC x m j) l ((List.range (btC x m j)).map (frC x m j + ·))).1) l).length = l.length by rw [h]; simp
  induction js with
  | nil => intro l; rfl
  | cons j js ih => intro l; rw [List.foldl_cons, ih, wrF_length]
/-- A value that its chunk can hold. -/
def valid (x m : Nat) (z : Nat → Int) (j : Nat) : Prop := 0 ≤ z j ∧ z j < 2 ^ btC x m j
set_option maxRecDepth 100000 in
set_option maxHeartbeats 4000000 in
theorem join_len (x m : Nat) (ao : Option Addr) (len cap : Nat) (w : World) (h : OkC x m) (hl : len ≠ m) :
    Calls Try.prog 15 #[.int .i64 x, .int .i64 m, .slice ao len cap] w fun e w' => e = .returned (.tuple #[.string ⟨#[]⟩, .int .i64 13]) ∧ Below w.heap.size w w' := by
  have hne : ((len : Int) != (m : Int)) = true := by rw [bne_iff_ne]; omega
  clear hl
  go_enter Try.func15, Try.ntmps15
  go_wp2_with fail
  refine (checkChunks_any _ _ _).mono ?_
  rintro e w' ⟨rfl, rfl⟩
  rw [cc_ok h]
  go_wp2
  refine bodyPost_ret (v := .tuple #[.string ⟨#[]⟩, .int .i64 13]) (by simp [results, Try.results15, go_sem]) rfl ⟨rfl, ?_⟩
  exact (((Below.refl _ _).alloc (Nat.le_refl _) _).alloc (by simp) _).alloc (by simp; omega) _
set_option maxRecDepth 100000 in
set_option maxHeartbeats 4000000 in
theorem join_yes (x m gv ov cap : Nat) (z : Nat → Int) (w : World) (h : OkC x m) (hgv : gv < w.heap.size) (hz : ∀ j, j < m → w.cell? ⟨gv, ov + j, none⟩ = some (.int .i64 (z j))) (hzb : ∀ j, j < m → -9223372036854775808 ≤ z j ∧ z j ≤ 9223372036854775807) :
    Calls Try.prog 15 #[.int .i64 x, .int .i64 m, .slice (some ⟨gv, ov, none⟩) m cap] w fun e w' => ((∃ t : ByteArray, (∀ j, j < m → valid x m z j) ∧ t.data.toList = joinL x m z (List.range m) ∧ e = .returned (.tuple #[.string t, .int .i64 0])) ∨ (¬ (∀ j, j < m → valid x m z j) ∧ e = .returned (.tuple #[.string ⟨#[]⟩, .int .i64 13]))) ∧ Below w.heap.size w w' := by
  have hp := h.pos
  have hle := h.le
  have hxx := h.2.1
  have hmx := mixed
  obtain ⟨i0, hi, hz0, hz1, hz2⟩ := info_parts Try.info5
  refine (callsIn_wide (n := 9)).1 ?_
  refine callsIn_of_wp_marks Try.func15 rfl trivial ?_ rfl
  simp only [Try.ntmps15, List.size_toArray, List.length_cons, List.length_nil, Nat.reduceAdd, Nat.reduceSub, Array.replicate_succ, Array.replicate_zero, List.push_toArray, List.append_toArray, List.nil_append, List.cons_append]
  gi_wp2_with fail
  refine ⟨trivial, (callsIn_wide.2 (checkChunks_any _ _ _)).mono ?_⟩
  rintro e w' ⟨rfl, rfl⟩
  rw [cc_ok h]
  have hx8 : (x : Int) / 8 = ((x / 8 : Nat) : Int) := by omega
  have h8l : x / 8 ≤ 128 := by omega
  generalize x / 8 = n8 at *
  gi_wp2_with (gi_at_make; refine wpListIn_make_full _ rfl _ _ 59 rfl 5 i0 (.int .u8 0) 1 Try.underlying59 hi hz0 hz1 _ _ _ _ n8 rfl rfl rfl rfl (by rw [hz2]; omega) (by unfold maxLen; omega) ?_; intro w1 hrow hgr)
  simp only [World.size_alloc] at hrow
  have hB1 : Below w.heap.size w w1 := ((((Below.refl _ _).alloc (Nat.le_refl _) _).alloc (by simp) _).alloc (by simp; omega) _).grown hgr (by simp; omega) (fun k h => by cases h)
  have bv1 : Boxed w1 w.heap.size 22 (.slice (some ⟨gv, ov, none⟩) m cap) := ((((Boxed.new w 22 _).alloc _).alloc _)).kept hgr (fun e => by cases e)
  have br1 : Boxed w1 (w.heap.size + 1) 9 (.string ⟨#[]⟩) := by
    have := ((Boxed.new (w.alloc (.cells #[.slice (some ⟨gv, ov, none⟩) m cap] 22)) 9 (.string ⟨#[]⟩)).alloc (.cells #[.int .i64 0] 31)).kept hgr (fun e => by cases e)
    simpa using this
  have be1 : Boxed w1 (w.heap.size + 1 + 1) 31 (.int .i64 0) := by
    have := (Boxed.new ((w.alloc (.cells #[.slice (some ⟨gv, ov, none⟩) m cap] 22)).alloc (.cells #[.string ⟨#[]⟩] 9)) 31 (.int .i64 0)).kept hgr (fun e => by cases e)
    simpa using this
  have hs1 : w.heap.size + 1 + 1 + 1 < w1.heap.size := hrow.lt
  have hn8 : n8 = x / 8 := by omega
  have HN : Hid _ := hn8
  have hrow' : RowIs w1 (w.heap.size + 1 + 1 + 1) 5 ((joinL x m z []).map BV) := by
    have e := made_bytes n8
    rw [e] at hrow
    show RowIs _ _ _ ((List.replicate (x / 8) 0).map BV)
    rw [← hn8]; exact hrow
  clear hgr hrow hn8
  refine ⟨trivial, (callsIn_wide.2 (chunks_any _ _ _)).mono ?_⟩
  rintro e w2 ⟨rfl, rfl⟩
  gi_wp2_with fail
  have hB0 : Below w.heap.size w (((w1.alloc (.cells #[.slice (some ⟨w.heap.size + 1 + 1 + 1, 0, none⟩) n8 n8] 59)).alloc (.cells #[.int .i64 x] 3)).alloc (.cells #[.int .i64 m] 3)) := ((hB1.alloc hB1.size _).alloc (by simp; omega) _).alloc (by simp; omega) _
  have r0 : RowIs (((w1.alloc (.cells #[.slice (some ⟨w.heap.size + 1 + 1 + 1, 0, none⟩) n8 n8] 59)).alloc (.cells #[.int .i64 x] 3)).alloc (.cells #[.int .i64 m] 3)) (w.heap.size + 1 + 1 + 1) 5 ((joinL x m z []).map BV) := ((hrow'.alloc _).alloc _).alloc _
  have bv : Boxed (((w1.alloc (.cells #[.slice (some ⟨w.heap.size + 1 + 1 + 1, 0, none⟩) n8 n8] 59)).alloc (.cells #[.int .i64 x] 3)).alloc (.cells #[.int .i64 m] 3)) w.heap.size 22 (.slice (some ⟨gv, ov, none⟩) m cap) := ((bv1.alloc _).alloc _).alloc _
  have br : Boxed (((w1.alloc (.cells #[.slice (some ⟨w.heap.size + 1 + 1 + 1, 0, none⟩) n8 n8] 59)).alloc (.cells #[.int .i64 x] 3)).alloc (.cells #[.int .i64 m] 3)) (w.heap.size + 1) 9 (.string ⟨#[]⟩) := ((br1.alloc _).alloc _).alloc _
  have be : Boxed (((w1.alloc (.cells #[.slice (some ⟨w.heap.size + 1 + 1 + 1, 0, none⟩) n8 n8] 59)).alloc (.cells #[.int .i64 x] 3)).alloc (.cells #[.int .i64 m] 3)) (w.heap.size + 1 + 1) 31 (.int .i64 0) := ((be1.alloc _).alloc _).alloc _
  have bo : Boxed (((w1.alloc (.cells #[.slice (some ⟨w.heap.size + 1 + 1 + 1, 0, none⟩) n8 n8] 59)).alloc (.cells #[.int .i64 x] 3)).alloc (.cells #[.int .i64 m] 3)) w1.heap.size 59 (.slice (some ⟨w.heap.size + 1 + 1 + 1, 0, none⟩) n8 n8) := ((Boxed.new w1 59 _).alloc _).alloc _
  have c2 : (((w1.alloc (.cells #[.slice (some ⟨w.heap.size + 1 + 1 + 1, 0, none⟩) n8 n8] 59)).alloc (.cells #[.int .i64 x] 3)).alloc (.cells #[.int .i64 m] 3)).cell? ⟨w1.heap.size + 1, 0, none⟩ = some (.int .i64 x) := by go_simp
  have c3 : (((w1.alloc (.cells #[.slice (some ⟨w.heap.size + 1 + 1 + 1, 0, none⟩) n8 n8] 59)).alloc (.cells #[.int .i64 x] 3)).alloc (.cells #[.int .i64 m] 3)).cell? ⟨w1.heap.size + 1 + 1, 0, none⟩ = some (.int .i64 m) := by go_simp
  have sz : (((w1.alloc (.cells #[.slice (some ⟨w.heap.size + 1 + 1 + 1, 0, none⟩) n8 n8] 59)).alloc (.cells #[.int .i64 x] 3)).alloc (.cells #[.int .i64 m] 3)).heap.size = w1.heap.size + 3 := by simp
  generalize (((w1.alloc (.cells #[.slice (some ⟨w.heap.size + 1 + 1 + 1, 0, none⟩) n8 n8] 59)).alloc (.cells #[.int .i64 x] 3)).alloc (.cells #[.int .i64 m] 3)) = W0 at *
  clear hrow' hB1 bv1 br1 be1
  refine wpIn_rangeFunc_ownH rfl (by omega) (gf := 25) (lb := #[.pointer (some ⟨w1.heap.size + 1 + 1, 0, none⟩), .pointer (some ⟨w1.heap.size + 1, 0, none⟩)]) rfl trivial (enters_of Try.func25 (by kernel_rfl) rfl)
    (chunks_stops (fun j => j < m) x m (w1.heap.size + 1) (w1.heap.size + 1 + 1) _ (w1.heap.size + 1) W0 c2 c3 hp (by omega) (by omega) (Nat.le_refl _) (by omega) (fun i hi => hi)) keepC_t keepC_b (Below.refl _ _) (fun _ => rfl)
    (fun pre W => RowIs W (w.heap.size + 1 + 1 + 1) 5 ((joinL x m z (vals pre)).map BV) ∧ Boxed W w.heap.size 22 (.slice (some ⟨gv, ov, none⟩) m cap) ∧ Boxed W (w.heap.size + 1) 9 (.string ⟨#[]⟩) ∧ Boxed W (w.heap.size + 1 + 1) 31 (.int .i64 0) ∧ Boxed W w1.heap.size 59 (.slice (some ⟨w.heap.size + 1 + 1 + 1, 0, none⟩) n8 n8) ∧ (∀ j ∈ vals pre, valid x m z j) ∧ Below w.heap.size w W)
    (fun c _ W => (c = .ret ∧ ∃ j, j < m ∧ ¬ valid x m z j) ∧ Boxed W (w.heap.size + 1) 9 (.string ⟨#[]⟩) ∧ Boxed W (w.heap.size + 1 + 1) 31 (.int .i64 13) ∧ Below w.heap.size w W)
    (OwnFrom.and (RowIs.own _ _ _ _) (OwnFrom.and (Own.from (boxed_own _ _ _) _) (OwnFrom.and (Own.from (boxed_own _ _ _) _) (OwnFrom.and (Own.from (boxed_own _ _ _) _) (OwnFrom.and (Own.from (boxed_own _ _ _) _) (OwnFrom.and (ownFrom_pure _ _) (ownFrom_below (Nat.le_refl _) (by omega))))))))
    (fun c => OwnFrom.and (ownFrom_pure _ _) (OwnFrom.and (Own.from (boxed_own _ _ _) _) (OwnFrom.and (Own.from (boxed_own _ _ _) _) (ownFrom_below (Nat.le_refl _) (by omega)))))
    ⟨r0, bv, br, be, bo, (fun j hj => by cases hj), hB0⟩
    (fun y a' W => ∃ Bx, w1.heap.size + 1 ≤ Bx ∧ RowIs W Bx 49 [.int .i64 (frC x m y.1), .int .i64 (btC x m y.1)] ∧ a' = { tmps := #[.int .i64 x, .int .i64 m, .slice (some ⟨gv, ov, none⟩) m cap, undef, undef, .pointer (some ⟨w.heap.size, 0, none⟩), .pointer (some ⟨w.heap.size + 1, 0, none⟩), .pointer (some ⟨w.heap.size + 1 + 1, 0, none⟩), .int .i64 0, .pointer (some ⟨w1.heap.size, 0, none⟩), .int .i64 (y.1 : Nat), .pointer (some ⟨Bx, 0, none⟩), .int .i64 x, .int .i64 m, .int .i64 0, .int .i64 0, .bool false, undef, .slice (some ⟨gv, ov, none⟩) m cap, .int .i64 m, .int .i64 m, .bool false, .int .i64 x, .int .i64 n8, .slice (some ⟨w.heap.size + 1 + 1 + 1, 0, none⟩) n8 n8, .int .i64 x, .int .i64 m, .func (.func 25) #[] #[.pointer (some ⟨w1.heap.size + 1 + 1, 0, none⟩), .pointer (some ⟨w1.heap.size + 1, 0, none⟩)], .int .i64 (y.1 : Nat), .agg #[.int .i64 (frC x m y.1), .int .i64 (btC x m y.1)], undef, undef, undef, undef, undef, undef, undef, undef, undef, undef, undef, undef, undef, undef, undef, undef, undef, undef, undef, undef, undef, undef, undef, undef], defers := [] })
    (fun y a' s A B row hs hg hr => by obtain ⟨Bx, h1, h2, h3⟩ := hs; exact ⟨Bx, h1, RowIs.own W0.heap.size Bx 49 (fun _ : Unit => _) () A B row h2 hg hr, h3⟩) ?assign ?body ?done ?stop
  case assign =>
    rintro l pre y W K ⟨hr, h1, h2, h3, h4, h5, hB⟩ hK
    simp only [encC]
    gi_wp2
    exact hK _ _ ((KeepsOthers.alloc _ _).from _) (KeepC.alloc _ _ _) ⟨hr.alloc _, h1.alloc _, h2.alloc _, h3.alloc _, h4.alloc _, h5, hB.alloc hB.size _⟩ ⟨W.heap.size, by have := h4.lt; omega, rowIs_new W 49 [.int .i64 (frC x m y.1), .int .i64 (btC x m y.1)], rfl⟩
  case body =>
    rintro l pre ⟨j, hj⟩ a' W hl ⟨r, hr⟩ ⟨hrow, hbv, hbr, hbe, hbo, hval, hB⟩ ⟨Bx, hBx, hx, rfl⟩ hlen
    have hjm : j < m := hj
    have hin := frC_in x m j hjm
    have hbt := btC_bd h j
    have hzj := hzb j hjm
    have zc : W.cell? ⟨gv, ov + j, none⟩ = some (.int .i64 (z j)) := (hB.cell (p := ⟨gv, ov + j, none⟩) hgv).trans (hz j hjm)
    have hcv := hbv.cell
    have hco := hbo.cell
    have cbr := hbr.cell
    have fbr := hbr.frozen
    have cbe := hbe.cell
    have fbe := hbe.frozen
    have x0 : W.cell? ⟨Bx, 0, none⟩ = some (.int .i64 (frC x m j)) := (hx.cell 0).trans rfl
    have x1 : W.cell? ⟨Bx, 1, none⟩ = some (.int .i64 (btC x m j)) := (hx.cell 1).trans rfl
    clear hi hz0 hz1 hz2 r0 bv br be bo c2 c3 hB0 hz hzb
    have bl : btC x m j ≤ 64 := by omega
    have HI : Hid _ := hin
    have Hbt : Hid _ := hbt
    have Hrow : Hid _ := hrow
    have Hbv : Hid _ := hbv
    have Hbr : Hid _ := hbr
    have Hbe : Hid _ := hbe
    have Hbo : Hid _ := hbo
    have Hx : Hid _ := hx
    have Hval : Hid _ := hval
    have HB : Hid _ := hB
    clear hrow hbv hbr hbe hbo hx hval hB hr hlen hin hbt
    by_cases hneg : z j < 0
    · have hinv : ¬ valid x m z j := fun e => by have := e.1; omega
      gi_wp2_with fail
      refine region_held hmx 15 rfl (S := fun w' => w'.cell? ⟨w.heap.size, 0, none⟩ = some (.slice (some ⟨gv, ov, none⟩) m cap) ∧ w'.cell? ⟨gv, ov + j, none⟩ = some (.int .i64 (z j)) ∧ w'.cell? ⟨Bx, 0, none⟩ = some (.int .i64 (frC x m j)) ∧ w'.cell? ⟨Bx, 1, none⟩ = some (.int .i64 (btC x m j)) ∧ w'.cell? ⟨w1.heap.size, 0, none⟩ = some (.slice (some ⟨w.heap.size + 1 + 1 + 1, 0, none⟩) n8 n8)) ?_
      refine AnyS.take (i := 0) (v := ?v0) (by kernel_rfl) rfl (by kernel_rfl) (by kernel_rfl) (by kernel_rfl) (fun _ _ _ h => h) ⟨Or.inl ⟨by kernel_rfl, fun w' hS => ?y0⟩, fun _ => rfl⟩ ⟨hcv, zc, x0, x1, hco⟩ ?_
      case y0 => obtain ⟨g1, g2, g3, g4, g5⟩ := hS; go_simp; rfl
      simp only [Act.put, List.setIfInBounds_toArray, List.set_cons_zero, List.set_cons_succ, List.getElem_toArray, List.getElem_cons_zero]
      refine AnyS.take (i := 1) (v := ?v1) (by kernel_rfl) rfl (by kernel_rfl) (by kernel_rfl) (by kernel_rfl) (fun _ _ _ h => h) ⟨Or.inl ⟨by kernel_rfl, fun w' hS => ?y1⟩, fun _ => rfl⟩ ⟨hcv, zc, x0, x1, hco⟩ ?_
      case y1 => obtain ⟨g1, g2, g3, g4, g5⟩ := hS; go_simp; rfl
      simp only [Act.put, List.setIfInBounds_toArray, List.set_cons_zero, List.set_cons_succ, List.getElem_toArray, List.getElem_cons_zero, List.getElem_cons_succ]
      refine AnyS.take (i := 2) (v := ?v2) (by kernel_rfl) rfl (by kernel_rfl) (by kernel_rfl) (by kernel_rfl) (fun _ _ _ h => h) ⟨Or.inl ⟨by kernel_rfl, fun w' hS => ?y2⟩, fun _ => rfl⟩ ⟨hcv, zc, x0, x1, hco⟩ ?_
      case y2 => obtain ⟨g1, g2, g3, g4, g5⟩ := hS; go_simp; rfl
      simp only [Act.put, List.setIfInBounds_toArray, List.set_cons_zero, List.set_cons_succ, List.getElem_toArray, List.getElem_cons_zero, List.getElem_cons_succ]
      refine AnyS.take (i := 3) (v := ?v3) (by kernel_rfl) rfl (by kernel_rfl) (by kernel_rfl) (by kernel_rfl) (fun _ _ _ h => h) ⟨Or.inl ⟨by kernel_rfl, fun w' hS => ?y3⟩, fun _ => rfl⟩ ⟨hcv, zc, x0, x1, hco⟩ ?_
      case y3 => obtain ⟨g1, g2, g3, g4, g5⟩ := hS; go_simp; rfl
      simp only [Act.put, List.setIfInBounds_toArray, List.set_cons_zero, List.set_cons_succ, List.getElem_toArray, List.getElem_cons_zero, List.getElem_cons_succ]
      refine AnyS.take (i := 4) (v := ?v4) (by kernel_rfl) rfl (by kernel_rfl) (by kernel_rfl) (by kernel_rfl) (fun _ _ _ h => h) ⟨Or.inl ⟨by kernel_rfl, fun w' hS => ?y4⟩, fun _ => rfl⟩ ⟨hcv, zc, x0, x1, hco⟩ ?_
      case y4 => obtain ⟨g1, g2, g3, g4, g5⟩ := hS; go_simp; rfl
      simp only [Act.put, List.setIfInBounds_toArray, List.set_cons_zero, List.set_cons_succ, List.getElem_toArray, List.getElem_cons_zero, List.getElem_cons_succ]
      refine AnyS.take (i := 5) (v := ?v5) (by kernel_rfl) rfl (by kernel_rfl) (by kernel_rfl) (by kernel_rfl) (fun _ _ _ h => h) ⟨Or.inl ⟨by kernel_rfl, fun w' hS => ?y5⟩, fun _ => rfl⟩ ⟨hcv, zc, x0, x1, hco⟩ ?_
      case y5 => obtain ⟨g1, g2, g3, g4, g5⟩ := hS; go_simp; rfl
      simp only [Act.put, List.setIfInBounds_toArray, List.set_cons_zero, List.set_cons_succ, List.getElem_toArray, List.getElem_cons_zero, List.getElem_cons_succ]
      refine AnyS.take (i := 6) (v := undef) (by kernel_rfl) rfl (by kernel_rfl) (by kernel_rfl) (by kernel_rfl) (fun _ _ _ h => h) ⟨Or.inr ⟨by kernel_rfl, rfl⟩, fun _ => rfl⟩ ⟨hcv, zc, x0, x1, hco⟩ ?_
      simp only [Act.put, List.setIfInBounds_toArray, List.set_cons_zero, List.set_cons_succ, List.getElem_toArray, List.getElem_cons_zero, List.getElem_cons_succ]
      refine AnyS.take (i := 7) (v := undef) (by kernel_rfl) rfl (by kernel_rfl) (by kernel_rfl) (by kernel_rfl) (fun _ _ _ h => h) ⟨Or.inr ⟨by kernel_rfl, rfl⟩, fun _ => rfl⟩ ⟨hcv, zc, x0, x1, hco⟩ ?_
      simp only [Act.put, List.setIfInBounds_toArray, List.set_cons_zero, List.set_cons_succ, List.getElem_toArray, List.getElem_cons_zero, List.getElem_cons_succ]
      refine AnyS.take (i := 8) (v := undef) (by kernel_rfl) rfl (by kernel_rfl) (by kernel_rfl) (by kernel_rfl) (fun _ _ _ h => h) ⟨Or.inr ⟨by kernel_rfl, rfl⟩, fun _ => rfl⟩ ⟨hcv, zc, x0, x1, hco⟩ ?_
      simp only [Act.put, List.setIfInBounds_toArray, List.set_cons_zero, List.set_cons_succ, List.getElem_toArray, List.getElem_cons_zero, List.getElem_cons_succ]
      refine AnyS.take (i := 9) (v := undef) (by kernel_rfl) rfl (by kernel_rfl) (by kernel_rfl) (by kernel_rfl) (fun _ _ _ h => h) ⟨Or.inr ⟨by kernel_rfl, rfl⟩, fun _ => rfl⟩ ⟨hcv, zc, x0, x1, hco⟩ ?_
      simp only [Act.put, List.setIfInBounds_toArray, List.set_cons_zero, List.set_cons_succ, List.getElem_toArray, List.getElem_cons_zero, List.getElem_cons_succ]
      refine AnyS.take (i := 10) (v := undef) (by kernel_rfl) rfl (by kernel_rfl) (by kernel_rfl) (by kernel_rfl) (fun _ _ _ h => h) ⟨Or.inr ⟨by kernel_rfl, rfl⟩, fun _ => rfl⟩ ⟨hcv, zc, x0, x1, hco⟩ ?_
      simp only [Act.put, List.setIfInBounds_toArray, List.set_cons_zero, List.set_cons_succ, List.getElem_toArray, List.getElem_cons_zero, List.getElem_cons_succ]
      refine AnyS.take (i := 11) (v := undef) (by kernel_rfl) rfl (by kernel_rfl) (by kernel_rfl) (by kernel_rfl) (fun _ _ _ h => h) ⟨Or.inr ⟨by kernel_rfl, rfl⟩, fun _ => rfl⟩ ⟨hcv, zc, x0, x1, hco⟩ ?_
      simp only [Act.put, List.setIfInBounds_toArray, List.set_cons_zero, List.set_cons_succ, List.getElem_toArray, List.getElem_cons_zero, List.getElem_cons_succ]
      refine AnyS.take (i := 12) (v := undef) (by kernel_rfl) rfl (by kernel_rfl) (by kernel_rfl) (by kernel_rfl) (fun _ _ _ h => h) ⟨Or.inr ⟨by kernel_rfl, rfl⟩, fun _ => rfl⟩ ⟨hcv, zc, x0, x1, hco⟩ ?_
      simp only [Act.put, List.setIfInBounds_toArray, List.set_cons_zero, List.set_cons_succ, List.getElem_toArray, List.getElem_cons_zero, List.getElem_cons_succ]
      refine AnyS.take (i := 13) (v := undef) (by kernel_rfl) rfl (by kernel_rfl) (by kernel_rfl) (by kernel_rfl) (fun _ _ _ h => h) ⟨Or.inr ⟨by kernel_rfl, rfl⟩, fun _ => rfl⟩ ⟨hcv, zc, x0, x1, hco⟩ ?_
      simp only [Act.put, List.setIfInBounds_toArray, List.set_cons_zero, List.set_cons_succ, List.getElem_toArray, List.getElem_cons_zero, List.getElem_cons_succ]
      refine AnyS.take (i := 14) (v := ?v14) (by kernel_rfl) rfl (by kernel_rfl) (by kernel_rfl) (by kernel_rfl) (fun _ _ _ h => h) ⟨Or.inl ⟨by kernel_rfl, fun w' hS => ?y14⟩, fun _ => rfl⟩ ⟨hcv, zc, x0, x1, hco⟩ ?_
      case y14 => obtain ⟨g1, g2, g3, g4, g5⟩ := hS; go_simp; rfl
      simp only [Act.put, List.setIfInBounds_toArray, List.set_cons_zero, List.set_cons_succ, List.getElem_toArray, List.getElem_cons_zero, List.getElem_cons_succ]
      refine AnyS.done (by kernel_rfl) ?_
      gi_wp2
      exact ⟨((KeepsOthers.setCell _ _ _).trans ((KeepsOthers.setCell _ _ _).trans (KeepsOthers.drew _))).from _, ⟨rfl, j, hjm, hinv⟩, boxed_set (Boxed.set (.string ⟨#[]⟩) (show Boxed W (w.heap.size + 1) 9 _ from Hbr.out)) (by simp) _, Boxed.set _ (boxed_set (show Boxed W (w.heap.size + 1 + 1) 31 _ from Hbe.out) (by simp) _), ((HB.out.setCell (by simp) _).setCell (by simp; omega) _).drew⟩
    · have hd0 : decide (z j < 0) = false := decide_eq_false hneg
      obtain ⟨v, hv⟩ := Int.eq_ofNat_of_zero_le (Int.not_lt.1 hneg)
      have HV : Hid (z j = (v : Int)) := hv
      have hdv : z j / 2 ^ btC x m j = ((v / 2 ^ btC x m j : Nat) : Int) := by rw [hv]; simp
      have hpw := Nat.two_pow_pos (btC x m j)
      by_cases hbig : 2 ^ btC x m j ≤ v
      · have hinv : ¬ valid x m z j := fun e => by
          have h2 := e.2
          rw [hv] at h2
          have : ((v : Nat) : Int) < ((2 ^ btC x m j : Nat) : Int) := by simpa using h2
          omega
        have ht : (z j / 2 ^ btC x m j != 0) = true := by
          rw [bne_iff_ne, hdv]; intro e
          have h0 : v / 2 ^ btC x m j = 0 := by omega
          rw [Nat.div_eq_zero_iff] at h0; omega
        clear hv hdv hpw hbig
        gi_wp2_with fail
        refine region_held hmx 15 rfl (S := fun w' => w'.cell? ⟨w.heap.size, 0, none⟩ = some (.slice (some ⟨gv, ov, none⟩) m cap) ∧ w'.cell? ⟨gv, ov + j, none⟩ = some (.int .i64 (z j)) ∧ w'.cell? ⟨Bx, 0, none⟩ = some (.int .i64 (frC x m j)) ∧ w'.cell? ⟨Bx, 1, none⟩ = some (.int .i64 (btC x m j)) ∧ w'.cell? ⟨w1.heap.size, 0, none⟩ = some (.slice (some ⟨w.heap.size + 1 + 1 + 1, 0, none⟩) n8 n8)) ?_
        refine AnyS.take (i := 0) (v := ?vb0) (by kernel_rfl) rfl (by kernel_rfl) (by kernel_rfl) (by kernel_rfl) (fun _ _ _ h => h) ⟨Or.inl ⟨by kernel_rfl, fun w' hS => ?yb0⟩, fun _ => rfl⟩ ⟨hcv, zc, x0, x1, hco⟩ ?_
        case yb0 => obtain ⟨g1, g2, g3, g4, g5⟩ := hS; go_simp; rfl
        simp only [Act.put, List.setIfInBounds_toArray, List.set_cons_zero, List.set_cons_succ, List.getElem_toArray, List.getElem_cons_zero]
        refine AnyS.take (i := 1) (v := ?vb1) (by kernel_rfl) rfl (by kernel_rfl) (by kernel_rfl) (by kernel_rfl) (fun _ _ _ h => h) ⟨Or.inl ⟨by kernel_rfl, fun w' hS => ?yb1⟩, fun _ => rfl⟩ ⟨hcv, zc, x0, x1, hco⟩ ?_
        case yb1 => obtain ⟨g1, g2, g3, g4, g5⟩ := hS; go_simp; rfl
        simp only [Act.put, List.setIfInBounds_toArray, List.set_cons_zero, List.set_cons_succ, List.getElem_toArray, List.getElem_cons_zero, List.getElem_cons_succ]
        refine AnyS.take (i := 2) (v := ?vb2) (by kernel_rfl) rfl (by kernel_rfl) (by kernel_rfl) (by kernel_rfl) (fun _ _ _ h => h) ⟨Or.inl ⟨by kernel_rfl, fun w' hS => ?yb2⟩, fun _ => rfl⟩ ⟨hcv, zc, x0, x1, hco⟩ ?_
        case yb2 => obtain ⟨g1, g2, g3, g4, g5⟩ := hS; go_simp; rfl
        simp only [Act.put, List.setIfInBounds_toArray, List.set_cons_zero, List.set_cons_succ, List.getElem_toArray, List.getElem_cons_zero, List.getElem_cons_succ]
        refine AnyS.take (i := 3) (v := ?vb3) (by kernel_rfl) rfl (by kernel_rfl) (by kernel_rfl) (by kernel_rfl) (fun _ _ _ h => h) ⟨Or.inl ⟨by kernel_rfl, fun w' hS => ?yb3⟩, fun _ => rfl⟩ ⟨hcv, zc, x0, x1, hco⟩ ?_
        case yb3 => obtain ⟨g1, g2, g3, g4, g5⟩ := hS; go_simp; rfl
        simp only [Act.put, List.setIfInBounds_toArray, List.set_cons_zero, List.set_cons_succ, List.getElem_toArray, List.getElem_cons_zero, List.getElem_cons_succ]
        refine AnyS.take (i := 4) (v := ?vb4) (by kernel_rfl) rfl (by kernel_rfl) (by kernel_rfl) (by kernel_rfl) (fun _ _ _ h => h) ⟨Or.inl ⟨by kernel_rfl, fun w' hS => ?yb4⟩, fun _ => rfl⟩ ⟨hcv, zc, x0, x1, hco⟩ ?_
        case yb4 => obtain ⟨g1, g2, g3, g4, g5⟩ := hS; go_simp; rfl
        simp only [Act.put, List.setIfInBounds_toArray, List.set_cons_zero, List.set_cons_succ, List.getElem_toArray, List.getElem_cons_zero, List.getElem_cons_succ]
        refine AnyS.take (i := 5) (v := ?vb5) (by kernel_rfl) rfl (by kernel_rfl) (by kernel_rfl) (by kernel_rfl) (fun _ _ _ h => h) ⟨Or.inl ⟨by kernel_rfl, fun w' hS => ?yb5⟩, fun _ => rfl⟩ ⟨hcv, zc, x0, x1, hco⟩ ?_
        case yb5 => obtain ⟨g1, g2, g3, g4, g5⟩ := hS; go_simp; rfl
        simp only [Act.put, List.setIfInBounds_toArray, List.set_cons_zero, List.set_cons_succ, List.getElem_toArray, List.getElem_cons_zero, List.getElem_cons_succ]
        refine AnyS.take (i := 6) (v := ?vb6) (by kernel_rfl) rfl (by kernel_rfl) (by kernel_rfl) (by kernel_rfl) (fun _ _ _ h => h) ⟨Or.inl ⟨by kernel_rfl, fun w' hS => ?yb6⟩, fun _ => rfl⟩ ⟨hcv, zc, x0, x1, hco⟩ ?_
        case yb6 => obtain ⟨g1, g2, g3, g4, g5⟩ := hS; go_simp; rfl
        simp only [Act.put, List.setIfInBounds_toArray, List.set_cons_zero, List.set_cons_succ, List.getElem_toArray, List.getElem_cons_zero, List.getElem_cons_succ]
        refine AnyS.take (i := 7) (v := ?vb7) (by kernel_rfl) rfl (by kernel_rfl) (by kernel_rfl) (by kernel_rfl) (fun _ _ _ h => h) ⟨Or.inl ⟨by kernel_rfl, fun w' hS => ?yb7⟩, fun _ => rfl⟩ ⟨hcv, zc, x0, x1, hco⟩ ?_
        case yb7 => obtain ⟨g1, g2, g3, g4, g5⟩ := hS; go_simp; rfl
        simp only [Act.put, List.setIfInBounds_toArray, List.set_cons_zero, List.set_cons_succ, List.getElem_toArray, List.getElem_cons_zero, List.getElem_cons_succ]
        refine AnyS.take (i := 8) (v := ?vb8) (by kernel_rfl) rfl (by kernel_rfl) (by kernel_rfl) (by kernel_rfl) (fun _ _ _ h => h) ⟨Or.inl ⟨by kernel_rfl, fun w' hS => ?yb8⟩, fun _ => rfl⟩ ⟨hcv, zc, x0, x1, hco⟩ ?_
        case yb8 => obtain ⟨g1, g2, g3, g4, g5⟩ := hS; go_simp; rfl
        simp only [Act.put, List.setIfInBounds_toArray, List.set_cons_zero, List.set_cons_succ, List.getElem_toArray, List.getElem_cons_zero, List.getElem_cons_succ]
        refine AnyS.take (i := 9) (v := ?vb9) (by kernel_rfl) rfl (by kernel_rfl) (by kernel_rfl) (by kernel_rfl) (fun _ _ _ h => h) ⟨Or.inl ⟨by kernel_rfl, fun w' hS => ?yb9⟩, fun _ => rfl⟩ ⟨hcv, zc, x0, x1, hco⟩ ?_
        case yb9 => obtain ⟨g1, g2, g3, g4, g5⟩ := hS; go_simp; rfl
        simp only [Act.put, List.setIfInBounds_toArray, List.set_cons_zero, List.set_cons_succ, List.getElem_toArray, List.getElem_cons_zero, List.getElem_cons_succ]
        refine AnyS.take (i := 10) (v := ?vb10) (by kernel_rfl) rfl (by kernel_rfl) (by kernel_rfl) (by kernel_rfl) (fun _ _ _ h => h) ⟨Or.inl ⟨by kernel_rfl, fun w' hS => ?yb10⟩, fun _ => rfl⟩ ⟨hcv, zc, x0, x1, hco⟩ ?_
        case yb10 => obtain ⟨g1, g2, g3, g4, g5⟩ := hS; go_simp; rfl
        simp only [Act.put, List.setIfInBounds_toArray, List.set_cons_zero, List.set_cons_succ, List.getElem_toArray, List.getElem_cons_zero, List.getElem_cons_succ]
        refine AnyS.take (i := 11) (v := ?vb11) (by kernel_rfl) rfl (by kernel_rfl) (by kernel_rfl) (by kernel_rfl) (fun _ _ _ h => h) ⟨Or.inl ⟨by kernel_rfl, fun w' hS => ?yb11⟩, fun _ => rfl⟩ ⟨hcv, zc, x0, x1, hco⟩ ?_
        case yb11 => obtain ⟨g1, g2, g3, g4, g5⟩ := hS; go_simp; rfl
        simp only [Act.put, List.setIfInBounds_toArray, List.set_cons_zero, List.set_cons_succ, List.getElem_toArray, List.getElem_cons_zero, List.getElem_cons_succ]
        refine AnyS.take (i := 12) (v := ?vb12) (by kernel_rfl) rfl (by kernel_rfl) (by kernel_rfl) (by kernel_rfl) (fun _ _ _ h => h) ⟨Or.inl ⟨by kernel_rfl, fun w' hS => ?yb12⟩, fun _ => rfl⟩ ⟨hcv, zc, x0, x1, hco⟩ ?_
        case yb12 => obtain ⟨g1, g2, g3, g4, g5⟩ := hS; go_simp; rfl
        simp only [Act.put, List.setIfInBounds_toArray, List.set_cons_zero, List.set_cons_succ, List.getElem_toArray, List.getElem_cons_zero, List.getElem_cons_succ]
        refine AnyS.take (i := 13) (v := ?vb13) (by kernel_rfl) rfl (by kernel_rfl) (by kernel_rfl) (by kernel_rfl) (fun _ _ _ h => h) ⟨Or.inl ⟨by kernel_rfl, fun w' hS => ?yb13⟩, fun _ => rfl⟩ ⟨hcv, zc, x0, x1, hco⟩ ?_
        case yb13 => obtain ⟨g1, g2, g3, g4, g5⟩ := hS; go_simp; rfl
        simp only [Act.put, List.setIfInBounds_toArray, List.set_cons_zero, List.set_cons_succ, List.getElem_toArray, List.getElem_cons_zero, List.getElem_cons_succ]
        refine AnyS.take (i := 14) (v := ?vb14) (by kernel_rfl) rfl (by kernel_rfl) (by kernel_rfl) (by kernel_rfl) (fun _ _ _ h => h) ⟨Or.inl ⟨by kernel_rfl, fun w' hS => ?yb14⟩, fun _ => rfl⟩ ⟨hcv, zc, x0, x1, hco⟩ ?_
        case yb14 => obtain ⟨g1, g2, g3, g4, g5⟩ := hS; go_simp; rfl
        simp only [Act.put, List.setIfInBounds_toArray, List.set_cons_zero, List.set_cons_succ, List.getElem_toArray, List.getElem_cons_zero, List.getElem_cons_succ]
        refine AnyS.done (by kernel_rfl) ?_
        gi_wp2
        exact ⟨((KeepsOthers.setCell _ _ _).trans ((KeepsOthers.setCell _ _ _).trans (KeepsOthers.drew _))).from _, ⟨rfl, j, hjm, hinv⟩, boxed_set (Boxed.set (.string ⟨#[]⟩) (show Boxed W (w.heap.size + 1) 9 _ from Hbr.out)) (by simp) _, Boxed.set _ (boxed_set (show Boxed W (w.heap.size + 1 + 1) 31 _ from Hbe.out) (by simp) _), ((HB.out.setCell (by simp) _).setCell (by simp; omega) _).drew⟩
      · have hok : valid x m z j := ⟨by omega, by
          rw [hv]
          have : ((v : Nat) : Int) < ((2 ^ btC x m j : Nat) : Int) := by omega
          simpa using this⟩
        have HOK : Hid _ := hok
        have ht : (z j / 2 ^ btC x m j != 0) = false := by
          rw [bne_eq_false_iff_eq, hdv, Nat.div_eq_of_lt (by omega)]; rfl
        have hvb : v < 9223372036854775808 := by omega
        clear hv hdv hpw hbig hok
        gi_wp2_with fail
        refine region_held hmx 15 rfl (S := fun w' => w'.cell? ⟨w.heap.size, 0, none⟩ = some (.slice (some ⟨gv, ov, none⟩) m cap) ∧ w'.cell? ⟨gv, ov + j, none⟩ = some (.int .i64 (z j)) ∧ w'.cell? ⟨Bx, 0, none⟩ = some (.int .i64 (frC x m j)) ∧ w'.cell? ⟨Bx, 1, none⟩ = some (.int .i64 (btC x m j)) ∧ w'.cell? ⟨w1.heap.size, 0, none⟩ = some (.slice (some ⟨w.heap.size + 1 + 1 + 1, 0, none⟩) n8 n8)) ?_
        refine AnyS.take (i := 0) (v := ?vc0) (by kernel_rfl) rfl (by kernel_rfl) (by kernel_rfl) (by kernel_rfl) (fun _ _ _ h => h) ⟨Or.inl ⟨by kernel_rfl, fun w' hS => ?yc0⟩, fun _ => rfl⟩ ⟨hcv, zc, x0, x1, hco⟩ ?_
        case yc0 => obtain ⟨g1, g2, g3, g4, g5⟩ := hS; go_simp; rfl
        simp only [Act.put, List.setIfInBounds_toArray, List.set_cons_zero, List.set_cons_succ, List.getElem_toArray, List.getElem_cons_zero]
        refine AnyS.take (i := 1) (v := ?vc1) (by kernel_rfl) rfl (by kernel_rfl) (by kernel_rfl) (by kernel_rfl) (fun _ _ _ h => h) ⟨Or.inl ⟨by kernel_rfl, fun w' hS => ?yc1⟩, fun _ => rfl⟩ ⟨hcv, zc, x0, x1, hco⟩ ?_
        case yc1 => obtain ⟨g1, g2, g3, g4, g5⟩ := hS; go_simp; rfl
        simp only [Act.put, List.setIfInBounds_toArray, List.set_cons_zero, List.set_cons_succ, List.getElem_toArray, List.getElem_cons_zero, List.getElem_cons_succ]
        refine AnyS.take (i := 2) (v := ?vc2) (by kernel_rfl) rfl (by kernel_rfl) (by kernel_rfl) (by kernel_rfl) (fun _ _ _ h => h) ⟨Or.inl ⟨by kernel_rfl, fun w' hS => ?yc2⟩, fun _ => rfl⟩ ⟨hcv, zc, x0, x1, hco⟩ ?_
        case yc2 => obtain ⟨g1, g2, g3, g4, g5⟩ := hS; go_simp; rfl
        simp only [Act.put, List.setIfInBounds_toArray, List.set_cons_zero, List.set_cons_succ, List.getElem_toArray, List.getElem_cons_zero, List.getElem_cons_succ]
        refine AnyS.take (i := 3) (v := ?vc3) (by kernel_rfl) rfl (by kernel_rfl) (by kernel_rfl) (by kernel_rfl) (fun _ _ _ h => h) ⟨Or.inl ⟨by kernel_rfl, fun w' hS => ?yc3⟩, fun _ => rfl⟩ ⟨hcv, zc, x0, x1, hco⟩ ?_
        case yc3 => obtain ⟨g1, g2, g3, g4, g5⟩ := hS; go_simp; rfl
        simp only [Act.put, List.setIfInBounds_toArray, List.set_cons_zero, List.set_cons_succ, List.getElem_toArray, List.getElem_cons_zero, List.getElem_cons_succ]
        refine AnyS.take (i := 4) (v := ?vc4) (by kernel_rfl) rfl (by kernel_rfl) (by kernel_rfl) (by kernel_rfl) (fun _ _ _ h => h) ⟨Or.inl ⟨by kernel_rfl, fun w' hS => ?yc4⟩, fun _ => rfl⟩ ⟨hcv, zc, x0, x1, hco⟩ ?_
        case yc4 => obtain ⟨g1, g2, g3, g4, g5⟩ := hS; go_simp; rfl
        simp only [Act.put, List.setIfInBounds_toArray, List.set_cons_zero, List.set_cons_succ, List.getElem_toArray, List.getElem_cons_zero, List.getElem_cons_succ]
        refine AnyS.take (i := 5) (v := ?vc5) (by kernel_rfl) rfl (by kernel_rfl) (by kernel_rfl) (by kernel_rfl) (fun _ _ _ h => h) ⟨Or.inl ⟨by kernel_rfl, fun w' hS => ?yc5⟩, fun _ => rfl⟩ ⟨hcv, zc, x0, x1, hco⟩ ?_
        case yc5 => obtain ⟨g1, g2, g3, g4, g5⟩ := hS; go_simp; rfl
        simp only [Act.put, List.setIfInBounds_toArray, List.set_cons_zero, List.set_cons_succ, List.getElem_toArray, List.getElem_cons_zero, List.getElem_cons_succ]
        refine AnyS.take (i := 6) (v := ?vc6) (by kernel_rfl) rfl (by kernel_rfl) (by kernel_rfl) (by kernel_rfl) (fun _ _ _ h => h) ⟨Or.inl ⟨by kernel_rfl, fun w' hS => ?yc6⟩, fun _ => rfl⟩ ⟨hcv, zc, x0, x1, hco⟩ ?_
        case yc6 => obtain ⟨g1, g2, g3, g4, g5⟩ := hS; go_simp; rfl
        simp only [Act.put, List.setIfInBounds_toArray, List.set_cons_zero, List.set_cons_succ, List.getElem_toArray, List.getElem_cons_zero, List.getElem_cons_succ]
        refine AnyS.take (i := 7) (v := ?vc7) (by kernel_rfl) rfl (by kernel_rfl) (by kernel_rfl) (by kernel_rfl) (fun _ _ _ h => h) ⟨Or.inl ⟨by kernel_rfl, fun w' hS => ?yc7⟩, fun _ => rfl⟩ ⟨hcv, zc, x0, x1, hco⟩ ?_
        case yc7 => obtain ⟨g1, g2, g3, g4, g5⟩ := hS; go_simp; rfl
        simp only [Act.put, List.setIfInBounds_toArray, List.set_cons_zero, List.set_cons_succ, List.getElem_toArray, List.getElem_cons_zero, List.getElem_cons_succ]
        refine AnyS.take (i := 8) (v := ?vc8) (by kernel_rfl) rfl (by kernel_rfl) (by kernel_rfl) (by kernel_rfl) (fun _ _ _ h => h) ⟨Or.inl ⟨by kernel_rfl, fun w' hS => ?yc8⟩, fun _ => rfl⟩ ⟨hcv, zc, x0, x1, hco⟩ ?_
        case yc8 => obtain ⟨g1, g2, g3, g4, g5⟩ := hS; go_simp; rfl
        simp only [Act.put, List.setIfInBounds_toArray, List.set_cons_zero, List.set_cons_succ, List.getElem_toArray, List.getElem_cons_zero, List.getElem_cons_succ]
        refine AnyS.take (i := 9) (v := ?vc9) (by kernel_rfl) rfl (by kernel_rfl) (by kernel_rfl) (by kernel_rfl) (fun _ _ _ h => h) ⟨Or.inl ⟨by kernel_rfl, fun w' hS => ?yc9⟩, fun _ => rfl⟩ ⟨hcv, zc, x0, x1, hco⟩ ?_
        case yc9 => obtain ⟨g1, g2, g3, g4, g5⟩ := hS; go_simp; rfl
        simp only [Act.put, List.setIfInBounds_toArray, List.set_cons_zero, List.set_cons_succ, List.getElem_toArray, List.getElem_cons_zero, List.getElem_cons_succ]
        refine AnyS.take (i := 10) (v := ?vc10) (by kernel_rfl) rfl (by kernel_rfl) (by kernel_rfl) (by kernel_rfl) (fun _ _ _ h => h) ⟨Or.inl ⟨by kernel_rfl, fun w' hS => ?yc10⟩, fun _ => rfl⟩ ⟨hcv, zc, x0, x1, hco⟩ ?_
        case yc10 => obtain ⟨g1, g2, g3, g4, g5⟩ := hS; go_simp; rfl
        simp only [Act.put, List.setIfInBounds_toArray, List.set_cons_zero, List.set_cons_succ, List.getElem_toArray, List.getElem_cons_zero, List.getElem_cons_succ]
        refine AnyS.take (i := 11) (v := ?vc11) (by kernel_rfl) rfl (by kernel_rfl) (by kernel_rfl) (by kernel_rfl) (fun _ _ _ h => h) ⟨Or.inl ⟨by kernel_rfl, fun w' hS => ?yc11⟩, fun _ => rfl⟩ ⟨hcv, zc, x0, x1, hco⟩ ?_
        case yc11 => obtain ⟨g1, g2, g3, g4, g5⟩ := hS; go_simp; rfl
        simp only [Act.put, List.setIfInBounds_toArray, List.set_cons_zero, List.set_cons_succ, List.getElem_toArray, List.getElem_cons_zero, List.getElem_cons_succ]
        refine AnyS.take (i := 12) (v := ?vc12) (by kernel_rfl) rfl (by kernel_rfl) (by kernel_rfl) (by kernel_rfl) (fun _ _ _ h => h) ⟨Or.inl ⟨by kernel_rfl, fun w' hS => ?yc12⟩, fun _ => rfl⟩ ⟨hcv, zc, x0, x1, hco⟩ ?_
        case yc12 => obtain ⟨g1, g2, g3, g4, g5⟩ := hS; go_simp; rfl
        simp only [Act.put, List.setIfInBounds_toArray, List.set_cons_zero, List.set_cons_succ, List.getElem_toArray, List.getElem_cons_zero, List.getElem_cons_succ]
        refine AnyS.take (i := 13) (v := ?vc13) (by kernel_rfl) rfl (by kernel_rfl) (by kernel_rfl) (by kernel_rfl) (fun _ _ _ h => h) ⟨Or.inl ⟨by kernel_rfl, fun w' hS => ?yc13⟩, fun _ => rfl⟩ ⟨hcv, zc, x0, x1, hco⟩ ?_
        case yc13 => obtain ⟨g1, g2, g3, g4, g5⟩ := hS; go_simp; rfl
        simp only [Act.put, List.setIfInBounds_toArray, List.set_cons_zero, List.set_cons_succ, List.getElem_toArray, List.getElem_cons_zero, List.getElem_cons_succ]
        refine AnyS.take (i := 14) (v := ?vc14) (by kernel_rfl) rfl (by kernel_rfl) (by kernel_rfl) (by kernel_rfl) (fun _ _ _ h => h) ⟨Or.inl ⟨by kernel_rfl, fun w' hS => ?yc14⟩, fun _ => rfl⟩ ⟨hcv, zc, x0, x1, hco⟩ ?_
        case yc14 => obtain ⟨g1, g2, g3, g4, g5⟩ := hS; go_simp; rfl
        simp only [Act.put, List.setIfInBounds_toArray, List.set_cons_zero, List.set_cons_succ, List.getElem_toArray, List.getElem_cons_zero, List.getElem_cons_succ]
        refine AnyS.done (by kernel_rfl) ?_
        gi_wp2_with fail
        refine region_held hmx 7 rfl (S := fun w' => w'.cell? ⟨w.heap.size, 0, none⟩ = some (.slice (some ⟨gv, ov, none⟩) m cap) ∧ w'.cell? ⟨gv, ov + j, none⟩ = some (.int .i64 (z j)) ∧ w'.cell? ⟨Bx, 0, none⟩ = some (.int .i64 (frC x m j)) ∧ w'.cell? ⟨Bx, 1, none⟩ = some (.int .i64 (btC x m j)) ∧ w'.cell? ⟨w1.heap.size, 0, none⟩ = some (.slice (some ⟨w.heap.size + 1 + 1 + 1, 0, none⟩) n8 n8)) ?_
        refine AnyS.take (i := 0) (v := ?vd0) (by kernel_rfl) rfl (by kernel_rfl) (by kernel_rfl) (by kernel_rfl) (fun _ _ _ h => h) ⟨Or.inl ⟨by kernel_rfl, fun w' hS => ?yd0⟩, fun _ => rfl⟩ ⟨hcv, zc, x0, x1, hco⟩ ?_
        case yd0 => obtain ⟨g1, g2, g3, g4, g5⟩ := hS; go_simp; rfl
        simp only [Act.put, List.setIfInBounds_toArray, List.set_cons_zero, List.set_cons_succ, List.getElem_toArray, List.getElem_cons_zero]
        refine AnyS.take (i := 1) (v := ?vd1) (by kernel_rfl) rfl (by kernel_rfl) (by kernel_rfl) (by kernel_rfl) (fun _ _ _ h => h) ⟨Or.inl ⟨by kernel_rfl, fun w' hS => ?yd1⟩, fun _ => rfl⟩ ⟨hcv, zc, x0, x1, hco⟩ ?_
        case yd1 => obtain ⟨g1, g2, g3, g4, g5⟩ := hS; go_simp; rfl
        simp only [Act.put, List.setIfInBounds_toArray, List.set_cons_zero, List.set_cons_succ, List.getElem_toArray, List.getElem_cons_zero, List.getElem_cons_succ]
        refine AnyS.take (i := 2) (v := ?vd2) (by kernel_rfl) rfl (by kernel_rfl) (by kernel_rfl) (by kernel_rfl) (fun _ _ _ h => h) ⟨Or.inl ⟨by kernel_rfl, fun w' hS => ?yd2⟩, fun _ => rfl⟩ ⟨hcv, zc, x0, x1, hco⟩ ?_
        case yd2 => obtain ⟨g1, g2, g3, g4, g5⟩ := hS; go_simp; rfl
        simp only [Act.put, List.setIfInBounds_toArray, List.set_cons_zero, List.set_cons_succ, List.getElem_toArray, List.getElem_cons_zero, List.getElem_cons_succ]
        refine AnyS.take (i := 3) (v := ?vd3) (by kernel_rfl) rfl (by kernel_rfl) (by kernel_rfl) (by kernel_rfl) (fun _ _ _ h => h) ⟨Or.inl ⟨by kernel_rfl, fun w' hS => ?yd3⟩, fun _ => rfl⟩ ⟨hcv, zc, x0, x1, hco⟩ ?_
        case yd3 => obtain ⟨g1, g2, g3, g4, g5⟩ := hS; go_simp; rfl
        simp only [Act.put, List.setIfInBounds_toArray, List.set_cons_zero, List.set_cons_succ, List.getElem_toArray, List.getElem_cons_zero, List.getElem_cons_succ]
        refine AnyS.take (i := 4) (v := ?vd4) (by kernel_rfl) rfl (by kernel_rfl) (by kernel_rfl) (by kernel_rfl) (fun _ _ _ h => h) ⟨Or.inl ⟨by kernel_rfl, fun w' hS => ?yd4⟩, fun _ => rfl⟩ ⟨hcv, zc, x0, x1, hco⟩ ?_
        case yd4 => obtain ⟨g1, g2, g3, g4, g5⟩ := hS; go_simp; rfl
        simp only [Act.put, List.setIfInBounds_toArray, List.set_cons_zero, List.set_cons_succ, List.getElem_toArray, List.getElem_cons_zero, List.getElem_cons_succ]
        refine AnyS.take (i := 5) (v := ?vd5) (by kernel_rfl) rfl (by kernel_rfl) (by kernel_rfl) (by kernel_rfl) (fun _ _ _ h => h) ⟨Or.inl ⟨by kernel_rfl, fun w' hS => ?yd5⟩, fun _ => rfl⟩ ⟨hcv, zc, x0, x1, hco⟩ ?_
        case yd5 => obtain ⟨g1, g2, g3, g4, g5⟩ := hS; go_simp; rfl
        simp only [Act.put, List.setIfInBounds_toArray, List.set_cons_zero, List.set_cons_succ, List.getElem_toArray, List.getElem_cons_zero, List.getElem_cons_succ]
        refine AnyS.one (i := 6) (by kernel_rfl) (wpOpIn_step rfl (fun K hK => ?_))
        go_simp
        rw [HV.out]
        refine ⟨trivial, (CallsIn.inRound l (callsIn_wide.2 (write_any (w.heap.size + 1 + 1 + 1) n8 n8 (frC x m j) (btC x m j) v (joinL x m z (vals pre)) _ ?hr (by rw [joinL_length]; exact HN.out.symm) (by omega) bl (by have := HI.out; have := HN.out; have := h.2.2.1; omega) hvb))).mono ?_⟩
        case hr => exact Hrow.out
        rintro e w3 ⟨rfl, r3, g3'⟩
        have g3 : W.grownBy w3 (some (w.heap.size + 1 + 1 + 1)) := ⟨g3'.os, g3'.tape, g3'.output, g3'.size, g3'.block⟩
        have ne : ∀ q, q ≠ w.heap.size + 1 + 1 + 1 → some q ≠ some (w.heap.size + 1 + 1 + 1) := fun q hq e => hq (by cases e; rfl)
        have bv3 : Boxed w3 w.heap.size 22 _ := Boxed.kept (W := W) Hbv.out g3 (ne _ (by omega))
        have br3 : Boxed w3 (w.heap.size + 1) 9 _ := Boxed.kept (W := W) Hbr.out g3 (ne _ (by omega))
        have be3 : Boxed w3 (w.heap.size + 1 + 1) 31 _ := Boxed.kept (W := W) Hbe.out g3 (ne _ (by omega))
        have bo3 : Boxed w3 w1.heap.size 59 _ := Boxed.kept (W := W) Hbo.out g3 (ne _ (by omega))
        have bx3 : RowIs w3 Bx 49 _ := RowIs.kept (W := W) Hx.out g3 (ne _ (by omega))
        have z3 : w3.cell? ⟨gv, ov + j, none⟩ = some (.int .i64 (z j)) := g3.cell (a := ⟨gv, ov + j, none⟩) zc (ne _ (by simp; omega))
        have B3 : Below w.heap.size w w3 := HB.out.grown g3 HB.out.size (fun k e => by cases e; omega)
        have kc3 : KeepC (w1.heap.size + 1) W w3 := KeepC.grown g3 (fun k e => by cases e; omega)
        have ko3 : KeepsFrom W0.heap.size W w3 := KeepsFrom.of_grownBy g3 (fun k e => by cases e; omega)
        refine hK _ _ ⟨⟨bv3.cell, z3, (bx3.cell 0).trans rfl, (bx3.cell 1).trans rfl, bo3.cell⟩, AnyS.done (by kernel_rfl) ?_⟩
        gi_wp2
        rw [sz] at ko3
        refine ⟨ko3, kc3, ?_, bv3, br3, be3, bo3, fun i hi => ?_, B3⟩
        · rw [vals_snoc, joinL_snoc, HV.out]; exact r3
        · rw [vals_snoc] at hi
          rcases List.mem_append.1 hi with h1 | h1
          · exact Hval.out i h1
          · simp at h1; subst h1; exact HOK.out
  case done =>
    rintro D ys W hD hys ⟨hrow, hbv, hbr, hbe, hbo, hval, hB⟩ hK
    rw [hys] at hrow hval
    have hall : ∀ j, j < m → valid x m z j := fun j hj => hval j (by simpa using hj)
    have hcb := hbo.cell
    have cbr := hbr.cell
    have fbr := hbr.frozen
    have cbe := hbe.cell
    have fbe := hbe.frozen
    have hln : (joinL x m z (List.range m)).length = n8 := by rw [joinL_length]; exact HN.out.symm
    have hcv : (convert 59 9 (.slice (some ⟨w.heap.size + 1 + 1 + 1, 0, none⟩) n8 n8)).run Try.prog W = .ok (.string ⟨(joinL x m z (List.range m)).toArray⟩) W := by
      have e := run_convert_bytes_back W 59 9 5 ⟨w.heap.size + 1 + 1 + 1, 0, none⟩ n8 (joinL x m z (List.range m)) Try.underlying59 Try.underlying5 Try.underlying9 (fun i hi => by
        have e : (⟨w.heap.size + 1 + 1 + 1, 0, none⟩ : Addr).add i = ⟨w.heap.size + 1 + 1 + 1, i, none⟩ := by unfold Addr.add; split <;> simp_all
        rw [e, hrow.cell, BV_get hi])
      rw [hln] at e; exact e
    clear hz hzb hi hz0 hz1 hz2 r0 bv br be bo c2 c3 hB0
    have HC : Hid _ := hval
    have Hr : Hid _ := hrow
    clear hval hrow
    gi_wp2
    have bR : Boxed ((W.setCell ⟨w.heap.size + 1, 0, none⟩ (.string ⟨(joinL x m z (List.range m)).toArray⟩)).setCell ⟨w.heap.size + 1 + 1, 0, none⟩ (.int .i64 0)) (w.heap.size + 1) 9 (.string ⟨(joinL x m z (List.range m)).toArray⟩) := boxed_set (Boxed.set _ hbr) (by simp) _
    have bE : Boxed ((W.setCell ⟨w.heap.size + 1, 0, none⟩ (.string ⟨(joinL x m z (List.range m)).toArray⟩)).setCell ⟨w.heap.size + 1 + 1, 0, none⟩ (.int .i64 0)) (w.heap.size + 1 + 1) 31 (.int .i64 0) := Boxed.set _ (boxed_set hbe (by simp) _)
    have hK2 := ((KeepsOthers.setCell W ⟨w.heap.size + 1, 0, none⟩ (.string ⟨(joinL x m z (List.range m)).toArray⟩)).trans (KeepsOthers.setCell _ ⟨w.heap.size + 1 + 1, 0, none⟩ (.int .i64 0))).same D _ hK rfl
    have B2 := (hB.setCell (p := ⟨w.heap.size + 1, 0, none⟩) (by simp) (.string ⟨(joinL x m z (List.range m)).toArray⟩)).setCell (p := ⟨w.heap.size + 1 + 1, 0, none⟩) (by simp; omega) (.int .i64 0)
    generalize ((W.setCell ⟨w.heap.size + 1, 0, none⟩ (.string ⟨(joinL x m z (List.range m)).toArray⟩)).setCell ⟨w.heap.size + 1 + 1, 0, none⟩ (.int .i64 0)) = W2 at *
    refine ⟨by simp, .inl ⟨_, _, rfl, run_takeDeferred hK2, ?_⟩⟩
    have cR := cell_kept bR.cell (grownBy_putObj' W2 D (.deferred none)) (fun r e => by cases e; exact ⟨_, hK2, rfl⟩)
    have cE := cell_kept bE.cell (grownBy_putObj' W2 D (.deferred none)) (fun r e => by cases e; exact ⟨_, hK2, rfl⟩)
    refine ⟨.tuple #[.string ⟨(joinL x m z (List.range m)).toArray⟩, .int .i64 0], ?_, .inl ⟨_, hall, by simp, rfl⟩, B2.trans (belowK_b (w := w) (Nat.le_refl _) _ D _ _ (by omega) hK2 rfl rfl)⟩
    simp [results, Try.f15, go_sem, cR, cE]
  case stop =>
    rintro D c pre W hD _ ⟨⟨rfl, hex⟩, hbr, hbe, hB⟩ hK
    clear hz hzb hi hz0 hz1 hz2 r0 bv br be bo c2 c3 hB0
    gi_wp2
    refine ⟨by simp, .inl ⟨_, _, rfl, run_takeDeferred hK, ?_⟩⟩
    have cR := cell_kept hbr.cell (grownBy_putObj' W D (.deferred none)) (fun r e => by cases e; exact ⟨_, hK, rfl⟩)
    have cE := cell_kept hbe.cell (grownBy_putObj' W D (.deferred none)) (fun r e => by cases e; exact ⟨_, hK, rfl⟩)
    refine ⟨.tuple #[.string ⟨#[]⟩, .int .i64 13], ?_, .inr ⟨fun hall => ?_, rfl⟩, hB.trans (belowK_b (w := w) (Nat.le_refl _) _ D _ _ (by omega) hK rfl rfl)⟩
    · simp [results, Try.f15, go_sem, cR, cE]
    · obtain ⟨j, h1, h2⟩ := hex; exact h2 (hall j h1)
end Go.Proofs.Ytfjbabiobobboaa
