/-
  DERIVED. write: a chunk's bits are set to its value's.
-/
import Derived.Test.YtfjbabiobobboaaRow
namespace Go.Proofs.Ytfjbabiobobboaa
open Go.RowKit Go.Shelf Go.Proofs.BitMath
attribute [local go_sem] Oper.semAt_some
/-- Bit j set. -/
def setBit (l : List UInt8) (j : Nat) : List UInt8 := l.set (j / 8) (l.getD (j / 8) 0 ||| mk j)
theorem setBit_length (l : List UInt8) (j : Nat) : (setBit l j).length = l.length := by simp [setBit]
/-- The bits at these places set to the value's b bits, the highest first: the text, and how many have come. -/
def wrF (v b : Nat) (l : List UInt8) (js : List Nat) : List UInt8 × Nat := js.foldl (fun st j => (if bt v (b - 1 - st.2) = 1 then setBit st.1 j else st.1, st.2 + 1)) (l, 0)
theorem wrF_snoc (v b : Nat) (l : List UInt8) (js : List Nat) (j : Nat) : wrF v b l (js ++ [j]) = (if bt v (b - 1 - (wrF v b l js).2) = 1 then setBit (wrF v b l js).1 j else (wrF v b l js).1, (wrF v b l js).2 + 1) := by unfold wrF; rw [List.foldl_append]; rfl
theorem wrG (v b : Nat) (js : List Nat) : ∀ st : List UInt8 × Nat, (js.foldl (fun st j => (if bt v (b - 1 - st.2) = 1 then setBit st.1 j else st.1, st.2 + 1)) st).2 = st.2 + js.length ∧ (js.foldl (fun st j => (if bt v (b - 1 - st.2) = 1 then setBit st.1 j else st.1, st.2 + 1)) st).1.length = st.1.length := by
  induction js with
  | nil => intro st; simp
  | cons j js ih =>
    intro st
    have := ih (if bt v (b - 1 - st.2) = 1 then setBit st.1 j else st.1, st.2 + 1)
    simp only [List.foldl_cons, List.length_cons] at this ⊢
    refine ⟨by rw [this.1]; omega, ?_⟩
    rw [this.2]; split
    · rw [setBit_length]
    · rfl
theorem wrF_count (v b : Nat) (l : List UInt8) (js : List Nat) : (wrF v b l js).2 = js.length := by have := (wrG v b js (l, 0)).1; simpa [wrF] using this
theorem wrF_length (v b : Nat) (l : List UInt8) (js : List Nat) : (wrF v b l js).1.length = l.length := (wrG v b js (l, 0)).2
theorem grownBy_trans {A B C : World} {row : Option Nat} (h : A.grownBy B row) (k : B.grownBy C row) : A.grownBy C row :=
  ⟨k.os.trans h.os, k.tape.trans h.tape, k.output.trans h.output, Nat.le_trans h.size k.size, fun i hi hr => (k.block i (Nat.lt_of_lt_of_le hi h.size) hr).trans (h.block i hi hr)⟩
theorem grownBy_new {A B C : World} {row : Option Nat} {q : Nat} (h : A.grownBy B row) (k : B.grownBy C (some q)) (hq : A.heap.size ≤ q) : A.grownBy C row :=
  ⟨k.os.trans h.os, k.tape.trans h.tape, k.output.trans h.output, Nat.le_trans h.size k.size, fun i hi hr => (k.block i (Nat.lt_of_lt_of_le hi h.size) (fun e => by cases e; omega)).trans (h.block i hi hr)⟩
theorem ownFrom_grown {β : Type} {B : Nat} {A : World} {row : Option Nat} (hB : A.heap.size ≤ B) : OwnFrom B (fun (_ : β) W => A.grownBy W row) := fun _ W W' r hs hg hr =>
  ⟨hg.os.trans hs.os, hg.tape.trans hs.tape, hg.output.trans hs.output, Nat.le_trans hs.size hg.size, fun i hi hne => (hg.block i (Nat.lt_of_lt_of_le hi hs.size) (fun e => by have := (hr i e.symm).1; omega)).trans (hs.block i hi hne)⟩
theorem BV_get {l : List UInt8} {j : Nat} (h : j < l.length) : (l.map BV)[j]? = some (.int .u8 (l[j].toNat)) := by rw [List.getElem?_map, List.getElem?_eq_getElem h]; rfl
theorem setBit_row {W : World} {g : Nat} {L : List UInt8} {j : Nat} (h : RowIs W g 5 (L.map BV)) (hj : j / 8 < L.length) : RowIs (W.setCell ⟨g, j / 8, none⟩ (.int .u8 ((L[j / 8]).toNat ||| mkN j : Nat))) g 5 ((setBit L j).map BV) := by
  have e : (setBit L j).map BV = (L.map BV).set (j / 8) (.int .u8 ((L[j / 8]).toNat ||| mkN j : Nat)) := by
    unfold setBit; rw [List.map_set, getD_of hj]; congr 1; unfold BV; rw [UInt8.toNat_or, mk_toNat]; rfl
  rw [e]; exact h.set _ _
set_option maxRecDepth 100000 in
set_option maxHeartbeats 4000000 in
theorem write_any (g len cap fr b v : Nat) (l : List UInt8) (w : World) (hrow : RowIs w g 5 (l.map BV)) (hl : l.length = len) (hlen : len ≤ 1024) (hb : b ≤ 64) (hfb : fr + b ≤ 8 * len) (hv : v < 9223372036854775808) :
    Calls Try.prog 23 #[.slice (some ⟨g, 0, none⟩) len cap, .agg #[.int .i64 fr, .int .i64 b], .int .i64 v] w fun e w' => e = .returned (.tuple #[]) ∧ RowIs w' g 5 ((wrF v b l ((List.range b).map (fr + ·))).1.map BV) ∧ w.grownBy w' (some g) := by
  have hgl := hrow.lt
  have Hl : Hid (l.length = len) := hl
  clear hl
  refine (callsIn_wide (n := 9)).1 ?_
  refine callsIn_of_wp_marks Try.func23 rfl trivial ?_ rfl
  simp only [Try.ntmps23, List.size_toArray, List.length_cons, List.length_nil, Nat.reduceAdd, Nat.reduceSub, Array.replicate_succ, Array.replicate_zero, List.push_toArray, List.append_toArray, List.nil_append, List.cons_append]
  gi_wp2_with fail
  refine ⟨trivial, (callsIn_wide.2 (places_any _ _ _)).mono ?_⟩
  rintro e w' ⟨rfl, rfl⟩
  gi_wp2_with fail
  have g0 : w.grownBy ((((((w.alloc (.cells #[.slice (some ⟨g, 0, none⟩) len cap] 59)).alloc (.cells #[.int .i64 fr, .int .i64 b] 49)).alloc (.cells #[.int .i64 v] 3)).alloc (.cells #[.int .i64 b] 3)).alloc (.cells #[.int .i64 fr] 3)).alloc (.cells #[.int .i64 b] 3)) (some g) := grownBy_trans (grownBy_trans (grownBy_trans (grownBy_trans (grownBy_trans (World.grownBy_alloc _ _ _) (World.grownBy_alloc _ _ _)) (World.grownBy_alloc _ _ _)) (World.grownBy_alloc _ _ _)) (World.grownBy_alloc _ _ _)) (World.grownBy_alloc _ _ _)
  have r0 : RowIs ((((((w.alloc (.cells #[.slice (some ⟨g, 0, none⟩) len cap] 59)).alloc (.cells #[.int .i64 fr, .int .i64 b] 49)).alloc (.cells #[.int .i64 v] 3)).alloc (.cells #[.int .i64 b] 3)).alloc (.cells #[.int .i64 fr] 3)).alloc (.cells #[.int .i64 b] 3)) g 5 (l.map BV) := (((((hrow.alloc _).alloc _).alloc _).alloc _).alloc _).alloc _
  have b0 : Boxed ((((((w.alloc (.cells #[.slice (some ⟨g, 0, none⟩) len cap] 59)).alloc (.cells #[.int .i64 fr, .int .i64 b] 49)).alloc (.cells #[.int .i64 v] 3)).alloc (.cells #[.int .i64 b] 3)).alloc (.cells #[.int .i64 fr] 3)).alloc (.cells #[.int .i64 b] 3)) w.heap.size 59 (.slice (some ⟨g, 0, none⟩) len cap) := (((((Boxed.new w 59 _).alloc _).alloc _).alloc _).alloc _).alloc _
  have b2 : Boxed ((((((w.alloc (.cells #[.slice (some ⟨g, 0, none⟩) len cap] 59)).alloc (.cells #[.int .i64 fr, .int .i64 b] 49)).alloc (.cells #[.int .i64 v] 3)).alloc (.cells #[.int .i64 b] 3)).alloc (.cells #[.int .i64 fr] 3)).alloc (.cells #[.int .i64 b] 3)) (w.heap.size + 1 + 1) 3 (.int .i64 v) := by
    have := ((((Boxed.new ((w.alloc (.cells #[.slice (some ⟨g, 0, none⟩) len cap] 59)).alloc (.cells #[.int .i64 fr, .int .i64 b] 49)) 3 (.int .i64 v)).alloc (.cells #[.int .i64 b] 3)).alloc (.cells #[.int .i64 fr] 3)).alloc (.cells #[.int .i64 b] 3))
    simpa using this
  have b3 : Boxed ((((((w.alloc (.cells #[.slice (some ⟨g, 0, none⟩) len cap] 59)).alloc (.cells #[.int .i64 fr, .int .i64 b] 49)).alloc (.cells #[.int .i64 v] 3)).alloc (.cells #[.int .i64 b] 3)).alloc (.cells #[.int .i64 fr] 3)).alloc (.cells #[.int .i64 b] 3)) (w.heap.size + 1 + 1 + 1) 3 (.int .i64 b) := by
    have := (((Boxed.new (((w.alloc (.cells #[.slice (some ⟨g, 0, none⟩) len cap] 59)).alloc (.cells #[.int .i64 fr, .int .i64 b] 49)).alloc (.cells #[.int .i64 v] 3)) 3 (.int .i64 b)).alloc (.cells #[.int .i64 fr] 3)).alloc (.cells #[.int .i64 b] 3))
    simpa using this
  have c4 : ((((((w.alloc (.cells #[.slice (some ⟨g, 0, none⟩) len cap] 59)).alloc (.cells #[.int .i64 fr, .int .i64 b] 49)).alloc (.cells #[.int .i64 v] 3)).alloc (.cells #[.int .i64 b] 3)).alloc (.cells #[.int .i64 fr] 3)).alloc (.cells #[.int .i64 b] 3)).cell? ⟨w.heap.size + 1 + 1 + 1 + 1, 0, none⟩ = some (.int .i64 fr) := by go_simp
  have c5 : ((((((w.alloc (.cells #[.slice (some ⟨g, 0, none⟩) len cap] 59)).alloc (.cells #[.int .i64 fr, .int .i64 b] 49)).alloc (.cells #[.int .i64 v] 3)).alloc (.cells #[.int .i64 b] 3)).alloc (.cells #[.int .i64 fr] 3)).alloc (.cells #[.int .i64 b] 3)).cell? ⟨w.heap.size + 1 + 1 + 1 + 1 + 1, 0, none⟩ = some (.int .i64 b) := by go_simp
  have sz : ((((((w.alloc (.cells #[.slice (some ⟨g, 0, none⟩) len cap] 59)).alloc (.cells #[.int .i64 fr, .int .i64 b] 49)).alloc (.cells #[.int .i64 v] 3)).alloc (.cells #[.int .i64 b] 3)).alloc (.cells #[.int .i64 fr] 3)).alloc (.cells #[.int .i64 b] 3)).heap.size = w.heap.size + 6 := by simp
  generalize ((((((w.alloc (.cells #[.slice (some ⟨g, 0, none⟩) len cap] 59)).alloc (.cells #[.int .i64 fr, .int .i64 b] 49)).alloc (.cells #[.int .i64 v] 3)).alloc (.cells #[.int .i64 b] 3)).alloc (.cells #[.int .i64 fr] 3)).alloc (.cells #[.int .i64 b] 3)) = W0 at *
  clear hrow
  refine wpIn_rangeFunc_ownF rfl (by omega) (gf := 28) (lb := #[.pointer (some ⟨w.heap.size + 1 + 1 + 1 + 1 + 1, 0, none⟩), .pointer (some ⟨w.heap.size + 1 + 1 + 1 + 1, 0, none⟩)]) rfl trivial (enters_of Try.func28 (by kernel_rfl) rfl)
    (places_stops (fun j => j < 8 * len) fr b (w.heap.size + 1 + 1 + 1 + 1) (w.heap.size + 1 + 1 + 1 + 1 + 1) _ W0 c4 c5 (by omega) (fun i hi => by omega)) keepB_t (keepB_b (by omega)) (Below.refl _ _) (fun _ => rfl)
    (fun pre W => RowIs W g 5 ((wrF v b l (vals pre)).1.map BV) ∧ Boxed W w.heap.size 59 (.slice (some ⟨g, 0, none⟩) len cap) ∧ Boxed W (w.heap.size + 1 + 1) 3 (.int .i64 v) ∧ Boxed W (w.heap.size + 1 + 1 + 1) 3 (.int .i64 ((b : Int) - (pre.length : Int))) ∧ w.grownBy W (some g))
    (fun _ _ _ => False)
    (OwnFrom.and (RowIs.own _ _ _ _) (OwnFrom.and (Own.from (boxed_own _ _ _) _) (OwnFrom.and (Own.from (boxed_own _ _ _) _) (OwnFrom.and (Own.from (boxed_own _ _ _) _) (ownFrom_grown (by omega))))))
    (fun _ _ _ _ _ hs _ _ => hs)
    ⟨r0, b0, b2, by simpa using b3, g0⟩
    (fun x => { tmps := #[.slice (some ⟨g, 0, none⟩) len cap, .agg #[.int .i64 fr, .int .i64 b], .int .i64 v, .pointer (some ⟨w.heap.size, 0, none⟩), .pointer (some ⟨w.heap.size + 1, 0, none⟩), .pointer (some ⟨w.heap.size + 1 + 1, 0, none⟩), .pointer (some ⟨w.heap.size + 1 + 1 + 1, 0, none⟩), .int .i64 (x.1 / 8 : Nat), .int .u8 (mkN x.1), .pointer (some ⟨w.heap.size + 1, 1, none⟩), .int .i64 b, .pointer (some ⟨w.heap.size + 1, 0, none⟩), .int .i64 fr, .pointer (some ⟨w.heap.size + 1, 1, none⟩), .int .i64 b, .func (.func 28) #[] #[.pointer (some ⟨w.heap.size + 1 + 1 + 1 + 1 + 1, 0, none⟩), .pointer (some ⟨w.heap.size + 1 + 1 + 1 + 1, 0, none⟩)], .int .i64 (x.1 / 8 : Nat), .int .u8 (mkN x.1), undef, undef, undef, undef, undef, undef, undef, undef, undef, undef, undef, undef, undef, undef], defers := [] }) ?assign ?body ?done ?stop
  case assign =>
    intro l x W K hK
    simp only [encP]
    gi_wp2
    exact hK
  case body =>
    rintro q pre ⟨j, hj⟩ W ⟨hr, hb0, hb2, hb3, hg⟩ hlen'
    clear r0 b0 b2 b3 c4 c5 g0
    have h8 : j / 8 < len := by omega
    have cb0 := hb0.cell
    have cb2 := hb2.cell
    have cb3 := hb3.cell
    have fb3 := hb3.frozen
    have hsn := wrF_snoc v b l (vals pre) j
    have hct := wrF_count v b l (vals pre)
    have hln := wrF_length v b l (vals pre)
    rw [vals_length] at hct
    rw [hct] at hsn
    have hrl : j / 8 < (wrF v b l (vals pre)).1.length := by rw [hln, Hl.out]; exact h8
    have y0 : W.cell? ⟨g, j / 8, none⟩ = some (.int .u8 ((wrF v b l (vals pre)).1[j / 8]'hrl).toNat) := by rw [hr.cell, BV_get hrl]
    have y1 := hr.frozen (j / 8)
    have HS : Hid ((wrF v b l (vals (pre ++ [⟨j, hj⟩]))).1 = if bt v (b - 1 - pre.length) = 1 then setBit (wrF v b l (vals pre)).1 j else (wrF v b l (vals pre)).1) := by show _ = _; rw [vals_snoc, hsn]
    have HN : Hid ((pre ++ [(⟨j, hj⟩ : Pos fun j => j < 8 * len)]).length = pre.length + 1) := by show _ = _; simp
    have HR : Hid _ := hr
    clear hsn hct hln hr
    generalize (wrF v b l (vals pre)).1 = L at *
    have ho := u8_or_nat (L[j / 8]'hrl).toNat (mkN j) (L[j / 8]'hrl).toNat_lt (mkN_lt j)
    generalize pre.length = k at *
    obtain ⟨t, ht⟩ : ∃ t : Nat, b - 1 - k = t := ⟨_, rfl⟩
    have htI : (b : Int) - (k : Int) - 1 = (t : Int) := by omega
    have htl : t < 64 := by omega
    rw [ht] at HS
    have hq := div_pow_le v t
    have ha := i64_and1 ((v : Int) / 2 ^ t) hq.1 (by omega)
    have Hbt : Hid ((((v : Int) / 2 ^ t) % 2) = (bt v t : Int)) := by show _ = _; unfold bt; simp
    clear ht
    have hr0 : RowIs W g 5 (L.map BV) := HR.out
    have hk1 : ((b : Int) - ((pre ++ [(⟨j, hj⟩ : Pos fun j => j < 8 * len)]).length : Int)) = (t : Int) := by rw [HN.out]; omega
    have HK1 : Hid _ := hk1
    have HR0 : Hid _ := hr0
    clear hk1 hr0
    gi_wp2
    · have ht1 : bt v t = 1 := by
        have h1 : ((v : Int) / 2 ^ t % 2 == 1) = true := by assumption
        have h2 := beq_iff_eq.1 h1
        rw [Hbt.out] at h2; omega
      refine ⟨(KeepsOthers.setCell _ _ _).trans (KeepsOthers.setCell _ _ _), (heap_setCell_other _ ⟨g, j / 8, none⟩ _ _ (by simp; omega)).trans (heap_setCell_other W ⟨w.heap.size + 1 + 1 + 1, 0, none⟩ _ _ (by simp)), ?_, boxed_set (boxed_set hb0 (by simp; omega) _) (by simp; omega) _, boxed_set (boxed_set hb2 (by simp) _) (by simp; omega) _, ?_, ?_⟩
      · rw [HS.out, if_pos ht1]; exact setBit_row (RowIs.other HR0.out (by simp; omega) _) hrl
      · rw [HK1.out]; exact boxed_set (hb3.set _) (by simp; omega) _
      · exact grownBy_trans (grownBy_new hg (grown_set W ⟨w.heap.size + 1 + 1 + 1, 0, none⟩ _) (by simp; omega)) (grown_set _ ⟨g, j / 8, none⟩ _)
    · have ht1 : ¬ bt v t = 1 := fun e => by
        have h1 : ((v : Int) / 2 ^ t % 2 == 1) = false := by assumption
        have h2 := beq_eq_false_iff_ne.1 h1
        rw [Hbt.out] at h2; omega
      refine ⟨KeepsOthers.setCell _ _ _, heap_setCell_other W ⟨w.heap.size + 1 + 1 + 1, 0, none⟩ _ _ (by simp), ?_, boxed_set hb0 (by simp; omega) _, boxed_set hb2 (by simp) _, ?_, ?_⟩
      · rw [HS.out, if_neg ht1]; exact RowIs.other HR0.out (by simp; omega) _
      · rw [HK1.out]; exact hb3.set _
      · exact grownBy_new hg (grown_set W ⟨w.heap.size + 1 + 1 + 1, 0, none⟩ _) (by simp; omega)
  case done =>
    rintro D ys W hD hys ⟨hr, hb0, hb2, hb3, hg⟩ hK
    rw [hys] at hr
    gi_wp2
    refine ⟨by simp, .inl ⟨_, _, rfl, run_takeDeferred hK, ?_⟩⟩
    exact ⟨_, results_none rfl _ _ _, rfl, (World.putObj_heap_other (fun e => by subst e; rw [hr] at hK; cases hK)).trans hr, grownBy_new hg (grownBy_putObj' W D _) (by omega)⟩
  case stop =>
    rintro D c pre W _ _ h _
    exact h.elim
end Go.Proofs.Ytfjbabiobobboaa
