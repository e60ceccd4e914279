/-
  DERIVED. Split.
-/
import Derived.Test.YtfjbabiobobboaaChunks
import Derived.Test.YtfjbabiobobboaaSlices
import Derived.Test.YtfjbabiobobboaaHeld
namespace Go.Proofs.Ytfjbabiobobboaa
open Go.RowKit Go.Shelf Go.Proofs.BitMath
attribute [local go_sem] Oper.semAt_some
theorem Try.infoI : (Try.prog.info? 3).map (fun i => (i.zero, i.size, i.bytes)) = some (some (.int .i64 0), 1, 8) := by kernel_rfl
theorem mixed : Try.prog.follows .mixedOrders = true := by kernel_rfl
/-- The value of chunk j. -/
def valC (l : List UInt8) (x m j : Nat) : Nat := numR l (frC x m j) (btC x m j)
/-- These cells hold the values of the chunks whose numbers are listed. -/
def HasV (l : List UInt8) (x m : Nat) (cs : List Value) (js : List Nat) : Prop := cs.length = m ∧ ∀ j ∈ js, cs[j]? = some (.int .i64 (valC l x m j))
theorem HasV.step {l : List UInt8} {x m : Nat} {cs : List Value} {js : List Nat} (h : HasV l x m cs js) (j : Nat) (hj : j < m) : HasV l x m (cs.set j (.int .i64 (valC l x m j))) (js ++ [j]) := by
  refine ⟨by simp [h.1], fun i hi => ?_⟩
  have hl := h.1
  by_cases e : i = j
  · subst e; rw [List.getElem?_set_self (by omega)]
  · have hi' : i ∈ js := by
      rcases List.mem_append.1 hi with h1 | h1
      · exact h1
      · simp at h1; exact absurd h1 e
    rw [List.getElem?_set_ne (by omega)]; exact h.2 i hi'
theorem valC_lt {l : List UInt8} {x m : Nat} (h : OkC x m) (j : Nat) : valC l x m j < 2 ^ btC x m j ∧ valC l x m j < 4294967296 := by
  have h1 := numR_lt l (frC x m j) (btC x m j)
  have h2 : 2 ^ btC x m j ≤ 2 ^ 32 := Nat.pow_le_pow_right (by omega) (btC_bd h j).2
  unfold valC; exact ⟨h1, by omega⟩
theorem bcell {W w1 : World} (hb : Below W.heap.size W w1) : (∀ b o, b < W.heap.size → w1.cell? ⟨b, o, none⟩ = W.cell? ⟨b, o, none⟩) ∧ (∀ b o, b < W.heap.size → w1.frozen? ⟨b, o, none⟩ = W.frozen? ⟨b, o, none⟩) :=
  ⟨fun b o h => hb.cell (p := ⟨b, o, none⟩) h, fun b o h => hb.frozen (p := ⟨b, o, none⟩) h⟩
set_option maxRecDepth 100000 in
set_option maxHeartbeats 4000000 in
theorem split_yes (x m : Nat) (s : ByteArray) (w : World) (h : OkC x m) (hs : s.size = x / 8) :
    Calls Try.prog 12 #[.int .i64 x, .int .i64 m, .string s] w fun e w' => (∃ g cs, w.heap.size ≤ g ∧ RowIs w' g 3 cs ∧ HasV s.data.toList x m cs (List.range m) ∧ e = .returned (.tuple #[.slice (some ⟨g, 0, none⟩) m m, .int .i64 0])) ∧ Below w.heap.size w w' := by
  have hp := h.pos
  have hle := h.le
  have hxx := h.2.1
  have h8 : 8 * s.size = x := by have := h.2.2.1; omega
  have hmx := mixed
  have HK : Hid (chk x s.size = 0) := by
    have hw : isW (x : Int) = true := by have := h.1; have := h.2.2.1; simp [isW]; omega
    exact chk0 hw (by rw [bne_eq_false_iff_eq]; omega)
  obtain ⟨i0, hi, hz0, hz1, hz2⟩ := info_parts Try.infoI
  have Hs : Hid (s.size = x / 8) := hs
  have H8 : Hid (8 * s.size = x) := h8
  have hsl : s.size ≤ 128 := by omega
  clear hs h8
  refine (callsIn_wide (n := 9)).1 ?_
  refine callsIn_of_wp_marks Try.func12 rfl trivial ?_ rfl
  simp only [Try.ntmps12, List.size_toArray, List.length_cons, List.length_nil, Nat.reduceAdd, Nat.reduceSub, Array.replicate_succ, Array.replicate_zero, List.push_toArray, List.append_toArray, List.nil_append, List.cons_append]
  gi_wp2_with fail
  refine ⟨trivial, (callsIn_wide.2 (checkChunks_any _ _ _)).mono ?_⟩
  rintro e w' ⟨rfl, rfl⟩
  rw [cc_ok h]
  gi_wp2_with fail
  refine ⟨trivial, (callsIn_wide.2 (check_any _ _ _)).mono ?_⟩
  rintro e w' ⟨rfl, rfl⟩
  rw [HK.out]
  gi_wp2_with (gi_at_make; refine wpListIn_make_full _ rfl _ _ 22 rfl 3 i0 (.int .i64 0) 1 Try.underlying22 hi hz0 hz1 _ _ _ _ m rfl rfl rfl rfl (by rw [hz2]; omega) (by unfold maxLen; omega) ?_; intro w1 hrow hgr)
  have hB1 : Below w.heap.size w w1 := ((Below.refl _ _).alloc (Nat.le_refl _) _).grown hgr (by simp) (fun k h => by cases h)
  have hb1 : Boxed w1 w.heap.size 9 (.string s) := (Boxed.new w 9 _).kept hgr (fun e => by cases e)
  rw [World.size_alloc] at hrow
  have hs1 : w.heap.size + 1 < w1.heap.size := hrow.lt
  have hcs0 : HasV s.data.toList x m (madeCells (Value.int .i64 0).cells (m * 1)).toList [] := ⟨by rw [made_len]; omega, fun j hj => by cases hj⟩
  generalize (madeCells (Value.int .i64 0).cells (m * 1)).toList = cs0 at *
  clear hgr
  refine ⟨trivial, (callsIn_wide.2 (chunks_any _ _ _)).mono ?_⟩
  rintro e w2 ⟨rfl, rfl⟩
  gi_wp2_with fail
  have hB0 : Below w.heap.size w (((w1.alloc (.cells #[.slice (some ⟨w.heap.size + 1, 0, none⟩) m m] 22)).alloc (.cells #[.int .i64 x] 3)).alloc (.cells #[.int .i64 m] 3)) :=
    ((hB1.alloc hB1.size _).alloc (by simp; omega) _).alloc (by simp; omega) _
  have r0 : RowIs (((w1.alloc (.cells #[.slice (some ⟨w.heap.size + 1, 0, none⟩) m m] 22)).alloc (.cells #[.int .i64 x] 3)).alloc (.cells #[.int .i64 m] 3)) (w.heap.size + 1) 3 cs0 := ((hrow.alloc _).alloc _).alloc _
  have bs : Boxed (((w1.alloc (.cells #[.slice (some ⟨w.heap.size + 1, 0, none⟩) m m] 22)).alloc (.cells #[.int .i64 x] 3)).alloc (.cells #[.int .i64 m] 3)) w.heap.size 9 (.string s) := ((hb1.alloc _).alloc _).alloc _
  have bo : Boxed (((w1.alloc (.cells #[.slice (some ⟨w.heap.size + 1, 0, none⟩) m m] 22)).alloc (.cells #[.int .i64 x] 3)).alloc (.cells #[.int .i64 m] 3)) w1.heap.size 22 (.slice (some ⟨w.heap.size + 1, 0, none⟩) m m) := ((Boxed.new w1 22 _).alloc _).alloc _
  have c2 : (((w1.alloc (.cells #[.slice (some ⟨w.heap.size + 1, 0, none⟩) m m] 22)).alloc (.cells #[.int .i64 x] 3)).alloc (.cells #[.int .i64 m] 3)).cell? ⟨w1.heap.size + 1, 0, none⟩ = some (.int .i64 x) := by go_simp
  have c3 : (((w1.alloc (.cells #[.slice (some ⟨w.heap.size + 1, 0, none⟩) m m] 22)).alloc (.cells #[.int .i64 x] 3)).alloc (.cells #[.int .i64 m] 3)).cell? ⟨w1.heap.size + 1 + 1, 0, none⟩ = some (.int .i64 m) := by go_simp
  have sz : (((w1.alloc (.cells #[.slice (some ⟨w.heap.size + 1, 0, none⟩) m m] 22)).alloc (.cells #[.int .i64 x] 3)).alloc (.cells #[.int .i64 m] 3)).heap.size = w1.heap.size + 3 := by simp
  generalize (((w1.alloc (.cells #[.slice (some ⟨w.heap.size + 1, 0, none⟩) m m] 22)).alloc (.cells #[.int .i64 x] 3)).alloc (.cells #[.int .i64 m] 3)) = W0 at *
  clear hrow hB1 hb1
  refine wpIn_rangeFunc_ownH rfl (by omega) (gf := 25) (lb := #[.pointer (some ⟨w1.heap.size + 1 + 1, 0, none⟩), .pointer (some ⟨w1.heap.size + 1, 0, none⟩)]) rfl trivial (enters_of Try.func25 (by kernel_rfl) rfl)
    (chunks_stops (fun j => j < m) x m (w1.heap.size + 1) (w1.heap.size + 1 + 1) _ (w1.heap.size + 1) W0 c2 c3 hp (by omega) (by omega) (Nat.le_refl _) (by omega) (fun i hi => hi)) keepC_t keepC_b (Below.refl _ _) (fun _ => rfl)
    (fun pre W => (∃ cs, RowIs W (w.heap.size + 1) 3 cs ∧ HasV s.data.toList x m cs (vals pre)) ∧ Boxed W w.heap.size 9 (.string s) ∧ Boxed W w1.heap.size 22 (.slice (some ⟨w.heap.size + 1, 0, none⟩) m m) ∧ Below w.heap.size w W)
    (fun _ _ _ => False)
    (OwnFrom.and (fun s A B row hs hg hr => by obtain ⟨cs, h1, h2⟩ := hs; exact ⟨cs, RowIs.own W0.heap.size (w.heap.size + 1) 3 (fun _ : Unit => cs) () A B row h1 hg hr, h2⟩) (OwnFrom.and (Own.from (boxed_own _ _ _) _) (OwnFrom.and (Own.from (boxed_own _ _ _) _) (ownFrom_below (Nat.le_refl _) (by omega)))))
    (fun _ _ _ _ _ hs _ _ => hs)
    ⟨⟨cs0, r0, hcs0⟩, bs, bo, hB0⟩
    (fun z a' W => ∃ Bx, w1.heap.size + 1 ≤ Bx ∧ RowIs W Bx 49 [.int .i64 (frC x m z.1), .int .i64 (btC x m z.1)] ∧ a' = { tmps := #[.int .i64 x, .int .i64 m, .string s, undef, undef, .pointer (some ⟨w.heap.size, 0, none⟩), .slice none 0 0, .int .i64 0, .int .i64 0, .int .i64 0, .pointer (some ⟨w1.heap.size, 0, none⟩), .int .i64 (z.1 : Nat), .pointer (some ⟨Bx, 0, none⟩), .int .i64 x, .int .i64 m, .int .i64 0, .int .i64 0, .bool false, undef, .int .i64 x, .string s, .int .i64 0, .int .i64 0, .bool false, undef, .int .i64 m, .slice (some ⟨w.heap.size + 1, 0, none⟩) m m, .int .i64 x, .int .i64 m, .func (.func 25) #[] #[.pointer (some ⟨w1.heap.size + 1 + 1, 0, none⟩), .pointer (some ⟨w1.heap.size + 1, 0, none⟩)], .int .i64 (z.1 : Nat), .agg #[.int .i64 (frC x m z.1), .int .i64 (btC x m z.1)], undef, undef, undef, undef, undef, undef, undef, undef, undef, undef, undef], defers := [] })
    (fun z a' s A B row hs hg hr => by obtain ⟨Bx, h1, h2, h3⟩ := hs; exact ⟨Bx, h1, RowIs.own W0.heap.size Bx 49 (fun _ : Unit => _) () A B row h2 hg hr, h3⟩) ?assign ?body ?done ?stop
  case assign =>
    rintro l pre z W K ⟨⟨cs, hr, hc⟩, hbs, hbx, hB⟩ hK
    simp only [encC]
    gi_wp2
    exact hK _ _ ((KeepsOthers.alloc _ _).from _) (KeepC.alloc _ _ _) ⟨⟨cs, hr.alloc _, hc⟩, hbs.alloc _, hbx.alloc _, hB.alloc hB.size _⟩ ⟨W.heap.size, by have := hbx.lt; omega, rowIs_new W 49 [.int .i64 (frC x m z.1), .int .i64 (btC x m z.1)], rfl⟩
  case body =>
    rintro l pre ⟨j, hj⟩ a' W hl ⟨r, hr⟩ ⟨⟨cs, hrow, hc⟩, hbs, hbx, hB⟩ ⟨Bx, hBx, hx, rfl⟩ hlen
    have hjm : j < m := hj
    have hin := frC_in x m j hjm
    have hbt := btC_bd h j
    have hvl := valC_lt (l := s.data.toList) h j
    have hcb := hbx.cell
    have hcs := hbs.cell
    have x0 : W.cell? ⟨Bx, 0, none⟩ = some (.int .i64 (frC x m j)) := (hx.cell 0).trans rfl
    have x1 : W.cell? ⟨Bx, 1, none⟩ = some (.int .i64 (btC x m j)) := (hx.cell 1).trans rfl
    have hj2 : j < cs.length := by rw [hc.1]; exact hjm
    have y0 : W.cell? ⟨w.heap.size + 1, j, none⟩ = some (cs[j]'hj2) := by rw [hrow.cell, List.getElem?_eq_getElem]
    have f0 := hrow.frozen j
    have l1 := hbx.lt
    have l2 := hx.lt
    have l3 := hrow.lt
    have HI : Hid _ := hin
    have fl : frC x m j ≤ 1024 := by omega
    have bl : btC x m j ≤ 64 := by omega
    have HV : Hid (numN s.data.toList ((List.range (btC x m j)).map (frC x m j + ·)) = valC s.data.toList x m j) := rfl
    have hv32 := hvl.2
    clear hi hz0 hz1 hz2 hcs0 r0 bs bo c2 c3 hB0 HK Hs hin hbt hmx hvl
    have hmx := mixed
    have Hc : Hid _ := hc
    have Hrow : Hid _ := hrow
    have Hbs : Hid _ := hbs
    have Hbx : Hid _ := hbx
    have Hx : Hid _ := hx
    have HB : Hid _ := hB
    clear hc hrow hbs hbx hx hB hr hl hlen hle hp hxx
    gi_wp2_with fail
    refine region_held hmx 11 rfl (S := fun w' => w'.cell? ⟨w1.heap.size, 0, none⟩ = some (.slice (some ⟨w.heap.size + 1, 0, none⟩) m m) ∧ w'.cell? ⟨w.heap.size, 0, none⟩ = some (.string s) ∧ w'.cell? ⟨Bx, 0, none⟩ = some (.int .i64 (frC x m j)) ∧ w'.cell? ⟨Bx, 1, none⟩ = some (.int .i64 (btC x m j))) ?_
    refine AnyS.take (i := 0) (v := ?v0) (by kernel_rfl) rfl (by kernel_rfl) (by kernel_rfl) (by kernel_rfl) (fun _ _ _ h => h) ⟨Or.inl ⟨by rfl, fun w' hS => ?y0⟩, fun _ => rfl⟩ ⟨hcb, hcs, x0, x1⟩ ?_
    case y0 => obtain ⟨g1, g2, g3, g4⟩ := hS; go_simp; rfl
    refine AnyS.take (i := 1) (v := ?v1) (by kernel_rfl) rfl (by kernel_rfl) (by kernel_rfl) (by kernel_rfl) (fun _ _ _ h => h) ⟨Or.inl ⟨by rfl, fun w' hS => ?y1⟩, fun _ => rfl⟩ ⟨hcb, hcs, x0, x1⟩ ?_
    case y1 => obtain ⟨g1, g2, g3, g4⟩ := hS; go_simp; rfl
    refine AnyS.take (i := 2) (v := ?v2) (by kernel_rfl) rfl (by kernel_rfl) (by kernel_rfl) (by kernel_rfl) (fun _ _ _ h => h) ⟨Or.inl ⟨by rfl, fun w' hS => ?y2⟩, fun _ => rfl⟩ ⟨hcb, hcs, x0, x1⟩ ?_
    case y2 => obtain ⟨g1, g2, g3, g4⟩ := hS; go_simp; rfl
    refine AnyS.take (i := 3) (v := ?v3) (by kernel_rfl) rfl (by kernel_rfl) (by kernel_rfl) (by kernel_rfl) (fun _ _ _ h => h) ⟨Or.inl ⟨by rfl, fun w' hS => ?y3⟩, fun _ => rfl⟩ ⟨hcb, hcs, x0, x1⟩ ?_
    case y3 => obtain ⟨g1, g2, g3, g4⟩ := hS; go_simp; rfl
    refine AnyS.take (i := 4) (v := ?v4) (by kernel_rfl) rfl (by kernel_rfl) (by kernel_rfl) (by kernel_rfl) (fun _ _ _ h => h) ⟨Or.inl ⟨by rfl, fun w' hS => ?y4⟩, fun _ => rfl⟩ ⟨hcb, hcs, x0, x1⟩ ?_
    case y4 => obtain ⟨g1, g2, g3, g4⟩ := hS; go_simp; rfl
    refine AnyS.take (i := 5) (v := ?v5) (by kernel_rfl) rfl (by kernel_rfl) (by kernel_rfl) (by kernel_rfl) (fun _ _ _ h => h) ⟨Or.inl ⟨by rfl, fun w' hS => ?y5⟩, fun _ => rfl⟩ ⟨hcb, hcs, x0, x1⟩ ?_
    case y5 => obtain ⟨g1, g2, g3, g4⟩ := hS; go_simp; rfl
    refine AnyS.take (i := 6) (v := ?v6) (by kernel_rfl) rfl (by kernel_rfl) (by kernel_rfl) (by kernel_rfl) (fun _ _ _ h => h) ⟨Or.inl ⟨by rfl, fun w' hS => ?y6⟩, fun _ => rfl⟩ ⟨hcb, hcs, x0, x1⟩ ?_
    case y6 => obtain ⟨g1, g2, g3, g4⟩ := hS; go_simp; rfl
    refine AnyS.one (i := 7) (by kernel_rfl) (wpOpIn_step rfl (fun K hK => ?_))
    go_simp
    refine ⟨trivial, (CallsIn.inRound l (callsIn_wide.2 (number_any s _ _ _ (by omega) bl (by rw [H8.out]; exact HI.out)))).mono ?_⟩
    rintro e w3 ⟨rfl, b3⟩
    rw [HV.out]
    have y3 := (b3.cell (p := ⟨w.heap.size + 1, j, none⟩) l3).trans y0
    have f3 := (b3.frozen (p := ⟨w.heap.size + 1, j, none⟩) l3).trans f0
    have S3 : w3.cell? ⟨w1.heap.size, 0, none⟩ = some (.slice (some ⟨w.heap.size + 1, 0, none⟩) m m) ∧ w3.cell? ⟨w.heap.size, 0, none⟩ = some (.string s) ∧ w3.cell? ⟨Bx, 0, none⟩ = some (.int .i64 (frC x m j)) ∧ w3.cell? ⟨Bx, 1, none⟩ = some (.int .i64 (btC x m j)) :=
      ⟨(b3.cell (p := ⟨w1.heap.size, 0, none⟩) l1).trans hcb, (b3.cell (p := ⟨w.heap.size, 0, none⟩) (Nat.lt_of_succ_lt l3)).trans hcs, (b3.cell (p := ⟨Bx, 0, none⟩) l2).trans x0, (b3.cell (p := ⟨Bx, 1, none⟩) l2).trans x1⟩
    refine hK _ _ ⟨S3, ?_⟩
    clear hK K
    refine AnyS.take (i := 8) (v := ?v8) (by kernel_rfl) rfl (by kernel_rfl) (by kernel_rfl) (by kernel_rfl) (fun _ _ _ h => h) ⟨Or.inl ⟨by rfl, fun w' hS => ?y8⟩, fun _ => rfl⟩ S3 ?_
    case y8 => go_simp; rfl
    refine AnyS.take (i := 9) (v := ?v9) (by kernel_rfl) rfl (by kernel_rfl) (by kernel_rfl) (by kernel_rfl) (fun _ _ _ h => h) ⟨Or.inl ⟨by rfl, fun w' hS => ?y9⟩, fun _ => rfl⟩ S3 ?_
    case y9 => go_simp; rfl
    refine AnyS.one (i := 10) (by kernel_rfl) (wpOpIn_step rfl (fun K hK => ?_))
    go_simp
    rw [i64_in _ (by omega) (by omega)]
    refine hK _ _ ⟨⟨?_, ?_, ?_, ?_⟩, AnyS.done (by kernel_rfl) ?_⟩
    · exact (World.cell?_setCell_other _ _ _ _ (addr_ne (by simp; omega))).trans S3.1
    · exact (World.cell?_setCell_other _ _ _ _ (addr_ne (by simp))).trans S3.2.1
    · exact (World.cell?_setCell_other _ _ _ _ (addr_ne (by simp; omega))).trans S3.2.2.1
    · exact (World.cell?_setCell_other _ _ _ _ (addr_ne (by simp; omega))).trans S3.2.2.2
    have hr3 : RowIs w3 (w.heap.size + 1) 3 cs := (b3.block _ l3).trans Hrow.out
    have hk3 : KeepsOthers W w3 := ⟨b3.size, fun k o hk _ => (b3.block k (Array.getElem?_eq_some_iff.1 hk).1).trans hk⟩
    have kc3 : KeepC (w1.heap.size + 1) W w3 := fun k o _ hk _ => (b3.block k (Array.getElem?_eq_some_iff.1 hk).1).trans hk
    have bs3 : Boxed w3 w.heap.size 9 (.string s) := (b3.block _ (Nat.lt_of_succ_lt l3)).trans Hbs.out
    have bx3 : Boxed w3 w1.heap.size 22 (.slice (some ⟨w.heap.size + 1, 0, none⟩) m m) := (b3.block _ l1).trans Hbx.out
    refine ⟨(hk3.trans (KeepsOthers.setCell _ _ _)).from _, keepC_t kc3 (KeepC.set (by simp; omega) _), ⟨⟨_, hr3.set j _, ?_⟩, boxed_set bs3 (by simp) _, boxed_set bx3 (by simp; omega) _, (HB.out.drew.trans (b3.mono HB.out.size)).setCell (by simp) _⟩⟩
    rw [vals_snoc]; exact HasV.step Hc.out j hj
  case done =>
    rintro D ys W hD hys ⟨⟨cs, hrow, hc⟩, hbs, hbx, hB⟩ hK
    rw [hys] at hc
    have hcell := hbx.cell
    gi_wp2
    refine ⟨by simp, .inl ⟨_, _, rfl, run_takeDeferred hK, ?_⟩⟩
    refine ⟨_, results_tmp2 rfl _ _ _, ⟨w.heap.size + 1, cs, by omega, ?_, hc, rfl⟩, hB.trans (belowK_b (w := w) (Nat.le_refl _) W D _ _ (by omega) hK rfl rfl)⟩
    exact (World.putObj_heap_other (fun e => by subst e; rw [hrow] at hK; cases hK)).trans hrow
  case stop =>
    rintro D c pre W _ _ h _
    exact h.elim
end Go.Proofs.Ytfjbabiobobboaa
