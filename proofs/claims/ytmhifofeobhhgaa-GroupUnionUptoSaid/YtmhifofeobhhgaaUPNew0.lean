/-
  DERIVED. What stands while the program's New puts its ids in.
-/
import Derived.Test.YtmhifofeobhhgaaUEnt
set_option linter.unusedVariables false
set_option linter.unusedSimpArgs false
namespace Go.Proofs.Ytmhifofeobhhgaa
open Go.RowKit Go.Proofs.UnionMath
/-- What the program's New comes to. -/
def PnO (w : World) (l : List Int) (e : Ending) (w' : World) : Prop := Below w.heap.size w w' ∧
  ((∃ T p mb ag iv, nwE [] l = (0, T) ∧ e = .returned (.tuple #[Pt p, .int .i64 0]) ∧ PU w' p mb ag iv T (fun k => k) ∧ w.heap.size ≤ p ∧ w.heap.size ≤ mb ∧ w.heap.size ≤ ag ∧ ∀ k, iv.ownBlock = some k → w.heap.size ≤ k) ∨
   ∃ c, nwE [] l = (c, []) ∧ c ≠ 0 ∧ e = .returned (.tuple #[.pointer none, .int .i64 c]))
theorem IM.congr {W : World} {mb n : Nat} {f g : Int → Option Int} (h : IM W mb n f) (hg : ∀ z, f z = g z) : IM W mb n g := by
  have : f = g := funext hg
  rw [← this]; exact h
/-- Who is in. -/
def mE (S : List Int) (z : Int) : Option Int := if z ∈ S then some 0 else none
theorem mE_in {S : List Int} {z : Int} (h : z ∈ S) : mE S z = some 0 := if_pos h
theorem mE_out {S : List Int} {z : Int} (h : z ∉ S) : mE S z = none := if_neg h
theorem mE_ins (S : List Int) (x y : Int) : (if y = x then some 0 else mE S y) = mE (insN S x) y := by
  unfold mE
  by_cases h : y = x
  · rw [if_pos h, if_pos ((insN_mem S x y).2 (.inl h))]
  · rw [if_neg h]
    by_cases k : y ∈ S
    · rw [if_pos k, if_pos ((insN_mem S x y).2 (.inr k))]
    · rw [if_neg k, if_neg (fun q => by rcases (insN_mem S x y).1 q with q | q; exact h q; exact k q)]
/-- Places, those from k on not yet told. -/
def fE (S : List Int) (k : Nat) (z : Int) : Option Int := (plc S z).map (fun j => if j < (k : Int) then j else 0)
theorem plc_at {S : List Int} {z j : Int} (hS : S.Pairwise (· < ·)) (h : plc S z = some j) : ∃ (i : Nat) (hi : i < S.length), S[i] = z ∧ j = i := by
  rcases plc_val hS (z := z) with ⟨i, hi, e, p⟩ | ⟨g, _⟩
  · rw [h] at p; exact ⟨i, hi, e, by simpa using p⟩
  · rw [plc_none g] at h; cases h
theorem fE_0 {S : List Int} (hS : S.Pairwise (· < ·)) (z : Int) : mE S z = fE S 0 z := by
  by_cases h : z ∈ S
  · rw [mE_in h]
    obtain ⟨i, hi, e⟩ := List.mem_iff_getElem.1 h
    unfold fE
    rw [← e, plc_some hS hi]
    simp; omega
  · rw [mE_out h]; unfold fE; rw [plc_none h]; rfl
theorem fE_n {S : List Int} (hS : S.Pairwise (· < ·)) (z : Int) : fE S S.length z = plc S z := by
  by_cases h : z ∈ S
  · obtain ⟨i, hi, e⟩ := List.mem_iff_getElem.1 h
    unfold fE
    rw [← e, plc_some hS hi]
    simp; omega
  · unfold fE; rw [plc_none h]; rfl
theorem fE_step {S : List Int} (hS : S.Pairwise (· < ·)) (k : Nat) (hk : k < S.length) (y : Int) : (if y = S[k] then some (k : Int) else fE S k y) = fE S (k + 1) y := by
  by_cases h : y ∈ S
  · obtain ⟨i, hi, e⟩ := List.mem_iff_getElem.1 h
    have he : y = S[k] ↔ i = k := by
      rw [← e]
      constructor
      · intro q
        by_cases c : i = k
        · exact c
        · rcases Nat.lt_or_gt_of_ne c with c | c
          · have := List.pairwise_iff_getElem.1 hS i k hi hk c; omega
          · have := List.pairwise_iff_getElem.1 hS k i hk hi c; omega
      · intro q; subst q; rfl
    unfold fE
    rw [← e, plc_some hS hi, e]
    by_cases c : i = k
    · rw [if_pos (he.2 c)]; subst c; simp; omega
    · rw [if_neg (fun q => c (he.1 q))]
      simp only [Option.map_some]
      by_cases d : i < k
      · rw [if_pos (by omega), if_pos (by omega)]
      · rw [if_neg (by omega), if_neg (by omega)]
  · rw [if_neg (fun q => h (by rw [q]; exact List.getElem_mem hk))]
    unfold fE; rw [plc_none h]; rfl
theorem fE_some {S : List Int} (hS : S.Pairwise (· < ·)) (k : Nat) (hk : k < S.length) : (fE S k S[k]).isSome = true := by
  unfold fE; rw [plc_some hS hk]; rfl
/-- The ways, those from k on not yet told. -/
def wA (k : Nat) : Nat → Nat := fun j => if j < k then j else 0
theorem wA_0 (n : Nat) : List.replicate n (0 : Int) = aL n (wA 0) := by
  apply List.ext_getElem
  · simp [aL_len]
  · intro i h1 h2
    rw [aL_get]; simp [wA]
theorem wA_step (n k : Nat) : (aL n (wA k)).set k (k : Int) = aL n (wA (k + 1)) := by
  rw [aL_set]
  congr 1
  funext j
  unfold upd wA
  by_cases h : j = k
  · subst h; simp
  · by_cases c : j < k
    · simp [h, c]; omega
    · simp [h, c]; omega
theorem wA_n (n : Nat) : aL n (wA n) = aL n (fun k => k) := by
  apply List.ext_getElem
  · simp [aL_len]
  · intro i h1 h2
    rw [aL_len] at h1
    rw [aL_get, aL_get, wA, if_pos h1]
theorem insN_perm (S : List Int) (x : Int) : (insN S x).Perm (S ++ [x]) := by
  unfold insN
  have h1 : (S.take (plN S x) ++ [x] ++ S.drop (plN S x)).Perm (S.take (plN S x) ++ (S.drop (plN S x) ++ [x])) := by
    rw [List.append_assoc]
    exact List.Perm.append_left _ List.perm_append_comm
  rw [← List.append_assoc, List.take_append_drop] at h1
  exact h1
theorem srt_up {S l : List Int} (hS : S.Pairwise (· < ·)) (hp : S.Perm l) : srt l = S := by
  have h1 : (srt l).Perm l := List.mergeSort_perm l _
  have h2 : (srt l).Pairwise (fun a b => a ≤ b) := by
    have := List.pairwise_mergeSort (le := fun x y : Int => decide (x ≤ y)) (fun a b c h1 h2 => by simp at *; omega) (fun a b => by simp; omega) l
    exact this.imp (fun h => by simpa using h)
  have hn : S.Nodup := hS.imp (fun h => by omega)
  have hn2 : (srt l).Nodup := (hp.trans h1.symm).nodup_iff.1 hn
  have h3 : (srt l).Pairwise (· < ·) := by
    have := List.pairwise_and_iff.2 ⟨h2, hn2⟩
    exact this.imp (fun h => by have := h.1; have := h.2; omega)
  exact up_same _ _ h3 hS (fun z => ⟨fun h => hp.mem_iff.2 (h1.mem_iff.1 h), fun h => h1.mem_iff.2 (hp.mem_iff.1 h)⟩)
/-- What stands while ids come in. -/
structure PI1 (w wr : World) (l : List Int) (i : Nat) (S : List Int) : Prop where
  map : IM wr w.heap.size i (mE S)
  perm : S.Perm (l.take i)
  up : S.Pairwise (· < ·)
  bd : ∀ z ∈ S, 0 ≤ z ∧ z ≤ 281474976710656
  eq : nwE [] l = nwE S (l.drop i)
  bl : Below w.heap.size w wr
theorem PI1.start (w : World) (l : List Int) : PI1 w (w.alloc (.map #[] 0)) l 0 [] :=
  ⟨(IM.made w).congr (fun z => rfl), by simp, .nil, (fun z hz => by simp at hz), by simp, (Below.refl _ w).alloc (Nat.le_refl _) _⟩
theorem PI1.put {w wr : World} {l : List Int} {i : Nat} {S : List Int} (h : PI1 w wr l i S) (hi : i < l.length) (hm : l.length ≤ 1048576) (hx : l[i] ∉ S) (hb : 0 ≤ l[i] ∧ l[i] ≤ 281474976710656) (heq : nwE [] l = nwE (insN S l[i]) (l.drop (i + 1))) :
    ∃ W', (Instr.mapUpdate 41 (.map (some w.heap.size)) (.int .i64 l[i]) (.int .i64 0)).run Try.prog wr = .ok () W' ∧ PI1 w W' l (i + 1) (insN S l[i]) := by
  obtain ⟨W', hr, him, st, sz⟩ := h.map.put (z := l[i]) (v := 0) ⟨by omega, by omega⟩ ⟨by omega, by omega⟩ (by unfold maxLen; omega)
  refine ⟨W', hr, him.congr (fun y => mE_ins S l[i] y), ?_, insN_up h.up hx, fun z hz => ?_, heq, h.bl.trans (st.toBelow (fun k hk e => by omega) h.bl.size)⟩
  · rw [List.take_add_one, List.getElem?_eq_getElem hi]
    exact (insN_perm S l[i]).trans (List.Perm.append_right _ h.perm)
  · rcases (insN_mem S l[i] z).1 hz with q | q
    · rw [q]; exact hb
    · exact h.bd z q
/-- What stands when the ids are sorted and the ways made. -/
structure P12 (w W : World) (mb ag n : Nat) (iv : Value) (S : List Int) : Prop where
  im : ∃ c, IM W mb c (mE S) ∧ c ≤ 1048576
  row : iE.Row W iv S
  zr : iE.Row W (.slice (some ⟨ag, 0, none⟩) n n) (List.replicate n 0)
  own : ∀ k, iv.ownBlock = some k → w.heap.size ≤ k
  ag0 : w.heap.size ≤ ag
  mb0 : w.heap.size ≤ mb
  ap : iv.ownBlock ≠ some ag
  bl : Below w.heap.size w W
theorem IM.below {W W' : World} {mb n : Nat} {f : Int → Option Int} (h : IM W mb n f) (b : Below W.heap.size W W') : IM W' mb n f := h.kept (F := fun _ => False) (.below b) (fun h => h)
theorem P12.a {w W W' : World} {mb n c : Nat} {v : Value} {S : List Int} (im : IM W mb c (mE S)) (hc : c ≤ 1048576) (row : iE.Row W v S) (own : ∀ k, v.ownBlock = some k → w.heap.size ≤ k) (mb0 : w.heap.size ≤ mb) (bl : Below w.heap.size w W) (zr : iE.Row W' (.slice (some ⟨W.heap.size, 0, none⟩) n n) (List.replicate n 0)) (b : Below W.heap.size W W') : P12 w W' mb W.heap.size n v S :=
  ⟨⟨c, im.below b, hc⟩, El.Row.below row b, zr, own, bl.size, mb0, fun e => by have := row_lt row e; omega, chain bl b (Nat.le_refl _)⟩
theorem P12.b {w W W' : World} {mb ag n c : Nat} {v : Value} {S : List Int} (im : IM W mb c (mE S)) (hc : c ≤ 1048576) (row : iE.Row W' v S) (own : ∀ k, v.ownBlock = some k → W.heap.size ≤ k) (mb0 : w.heap.size ≤ mb) (ag0 : w.heap.size ≤ ag) (bl : Below w.heap.size w W) (zr : iE.Row W (.slice (some ⟨ag, 0, none⟩) n n) (List.replicate n 0)) (b : Below W.heap.size W W') : P12 w W' mb ag n v S :=
  ⟨⟨c, im.below b, hc⟩, row, El.Row.below zr b, fun k hk => Nat.le_trans bl.size (own k hk), ag0, mb0, fun e => by have := own _ e; have := row_lt zr (k := ag) rfl; omega, chain bl b (Nat.le_refl _)⟩
/-- What stands while places are told. -/
structure QP (w wr : World) (p mb ag n : Nat) (iv : Value) (S : List Int) (k : Nat) : Prop where
  box : wr.heap[p]? = some (.cells #[iv, .map (some mb), .slice (some ⟨ag, 0, none⟩) n n] 48 (0, 0))
  row : iE.Row wr iv S
  im : ∃ c, IM wr mb c (fE S k) ∧ c ≤ 1048576 + k
  zr : iE.Row wr (.slice (some ⟨ag, 0, none⟩) n n) (aL n (wA k))
  own : ∀ k, iv.ownBlock = some k → w.heap.size ≤ k
  p0 : w.heap.size ≤ p
  ag0 : w.heap.size ≤ ag
  mb0 : w.heap.size ≤ mb
  ap : iv.ownBlock ≠ some ag
  bl : Below w.heap.size w wr
theorem P12.box {w W : World} {mb ag n : Nat} {iv : Value} {S : List Int} (h : P12 w W mb ag n iv S) (hS : S.Pairwise (· < ·)) : QP w (W.alloc (.cells #[iv, .map (some mb), .slice (some ⟨ag, 0, none⟩) n n] 48)) W.heap.size mb ag n iv S 0 := by
  have b : Below W.heap.size W (W.alloc (.cells #[iv, .map (some mb), .slice (some ⟨ag, 0, none⟩) n n] 48)) := (Below.refl _ W).alloc (Nat.le_refl _) _
  obtain ⟨c, him, hc⟩ := h.im
  refine ⟨heap_alloc_last W _, El.Row.below h.row b, ⟨c, (him.below b).congr (fE_0 hS), by omega⟩, ?_, h.own, h.bl.size, h.ag0, h.mb0, h.ap, chain h.bl b (Nat.le_refl _)⟩
  have := El.Row.below h.zr b
  rw [wA_0] at this; exact this
theorem QP.cells {w wr : World} {p mb ag n : Nat} {iv : Value} {S : List Int} {k : Nat} (h : QP w wr p mb ag n iv S k) : wr.cell? ⟨p, 0, none⟩ = some iv ∧ wr.cell? ⟨p, 1, none⟩ = some (.map (some mb)) ∧ wr.cell? ⟨p, 2, none⟩ = some (.slice (some ⟨ag, 0, none⟩) n n) := by
  have hb := h.box
  refine ⟨?_, ?_, ?_⟩ <;> simp [World.cell?, hb]
theorem QP.drew {w wr : World} {p mb ag n : Nat} {iv : Value} {S : List Int} {k : Nat} (h : QP w wr p mb ag n iv S k) : QP w wr.drew p mb ag n iv S k := by
  obtain ⟨c, him, hc⟩ := h.im
  exact ⟨h.box, El.Row.below h.row (b_drew wr), ⟨c, him.below (b_drew wr), hc⟩, El.Row.below h.zr (b_drew wr), h.own, h.p0, h.ag0, h.mb0, h.ap, h.bl.drew⟩
/-- One place is told. -/
theorem QP.step {w wr : World} {p mb ag n : Nat} {iv : Value} {S : List Int} {k : Nat} (h : QP w wr p mb ag n iv S k) (hI : Ids S) (hn : S.length = n) (hk : k < S.length) :
    ∃ v0 st W1 W2, (Instr.mapEntry 41 (.map (some mb)) (.int .i64 S[k])).run Try.prog wr = .ok (.tuple #[v0, .int .i64 (st : Nat)]) W1 ∧ (Instr.entryStore 41 (.map (some mb)) (.int .i64 (st : Nat)) (.int .i64 (k : Nat))).run Try.prog W1 = .ok () W2 ∧
      (W1.cell? ⟨p, 1, none⟩ = some (.map (some mb)) ∧ W1.cell? ⟨p, 2, none⟩ = some (.slice (some ⟨ag, 0, none⟩) n n)) ∧ (W2.cell? ⟨p, 1, none⟩ = some (.map (some mb)) ∧ W2.cell? ⟨p, 2, none⟩ = some (.slice (some ⟨ag, 0, none⟩) n n)) ∧
      (∃ u, W2.cell? ⟨ag, k, none⟩ = some u) ∧ W2.frozen? ⟨ag, k, none⟩ = false ∧ QP w (W2.setCell ⟨ag, k, none⟩ (.int .i64 k)) p mb ag n iv S (k + 1) := by
  obtain ⟨c, him, hc⟩ := h.im
  have hfew := hI.few
  have hmx : 1048576 + k < maxLen := by unfold maxLen; omega
  obtain ⟨v0, st, W1, W2, e1, e2, im2, s1, s2⟩ := him.entry (z := S[k]) (v := k) (hI.i64 (List.getElem_mem hk)) ⟨by omega, by omega⟩ (by omega) (fE_some hI.up k hk)
  obtain ⟨es, cl, hmb⟩ := him.isMap
  have hlt := (Array.getElem?_eq_some_iff.1 h.box).1
  have n1 : ¬ p = mb := fun e => by have := h.box; rw [e, hmb] at this; cases this
  obtain ⟨cur, hag⟩ := row_block h.zr (k := ag) rfl
  have n2 : ¬ ag = mb := fun e => by rw [e, hmb] at hag; cases hag
  have n3 : ¬ p = ag := fun e => by
    have := h.box
    rw [e, hag] at this
    injection this with this; injection this with _ this; revert this; decide
  have b1 := (s1.block p hlt n1).trans h.box
  have b2 := (s2.block p hlt n1).trans h.box
  have z2 : iE.Row W2 (.slice (some ⟨ag, 0, none⟩) n n) (aL n (wA k)) := row_kept h.zr s2 (fun j hj e => n2 (by cases hj; exact e))
  have r2 : iE.Row W2 iv S := row_kept h.row s2 (fun j hj e => by
    obtain ⟨cur, hc'⟩ := row_block h.row hj
    rw [e, hmb] at hc'; cases hc')
  have hkn : k < (aL n (wA k)).length := by rw [aL_len]; omega
  obtain ⟨q1, q2⟩ := i_cell' z2 k hkn
  have z3 := i_set z2 (by rw [aL_len]) k hkn (k : Int)
  rw [wA_step] at z3
  have s3 : Stay (fun j => j = ag) W2 (W2.setCell ⟨ag, k, none⟩ (.int .i64 (k : Int))) := Stay.setCell (F := fun j => j = ag) (p := ⟨ag, k, none⟩) (Stay.refl _ W2) (fun _ => rfl) _
  refine ⟨v0, st, W1, W2, e1, e2, ⟨by simp [World.cell?, b1], by simp [World.cell?, b1]⟩, ⟨by simp [World.cell?, b2], by simp [World.cell?, b2]⟩, ⟨_, q1⟩, q2, ⟨?_, ?_, ?_, z3, h.own, h.p0, h.ag0, h.mb0, h.ap, ?_⟩⟩
  · exact (s3.block p (Array.getElem?_eq_some_iff.1 b2).1 n3).trans b2
  · exact row_kept r2 s3 (fun j hj e => h.ap (by rw [hj, e]))
  · exact ⟨c + 1, (im2.kept s3 (fun e => n2 e.symm)).congr (fE_step hI.up k hk), by omega⟩
  · exact (h.bl.trans (s2.toBelow (fun j hj e => by have := h.mb0; omega) h.bl.size)).setCell h.ag0 _
/-- All are told. -/
theorem QP.fin {w wr : World} {p mb ag n : Nat} {iv : Value} {S l : List Int} (h : QP w wr p mb ag n iv S n) (hI : Ids S) (hn : S.length = n) (heq : nwE [] l = (0, S)) : PnO w l (.returned (.tuple #[Pt p, .int .i64 0])) wr := by
  obtain ⟨c, him, hc⟩ := h.im
  subst hn
  have hz := h.zr
  rw [wA_n] at hz
  exact ⟨h.bl, .inl ⟨S, p, mb, ag, iv, heq, rfl, ⟨hI, h.box, h.row, ⟨c, him.congr (fE_n hI.up)⟩, ⟨_, hz, up_id _⟩, h.ap⟩, h.p0, h.mb0, h.ag0, h.own⟩⟩
theorem oper_make_eq {P : Program} {w : World} {o : Oper} {a : Act} {K : Act → World → Prop} {Q : Exit → Act → World → Prop} (t : TypeId) (l c : Operand) (ho : o.op = .makeSlice t l c) (v : Value) (w' : World) (hr : (Instr.makeSlice t (a.eval l) (a.eval c)).run P w = .ok v w')
    (h : K (a.put o.dst v) w') : Oper.wp P o a w K Q := by
  unfold Oper.wp
  simp [execOp, ho, hr, Result.andThen]
  exact h
theorem oper_entry_eq {P : Program} {w : World} {o : Oper} {a : Act} {K : Act → World → Prop} {Q : Exit → Act → World → Prop} (t : TypeId) (m x : Operand) (ho : o.op = .mapEntry t m x) (v : Value) (w' : World) (mv xv : Value) (hm : a.eval m = mv) (hx : a.eval x = xv) (hr : (Instr.mapEntry t mv xv).run P w = .ok v w')
    (h : K (a.put o.dst v) w') : Oper.wp P o a w K Q := by
  unfold Oper.wp
  simp [execOp, ho, hm, hx, hr, Result.andThen]
  exact h
theorem oper_estore_eq {P : Program} {w : World} {o : Oper} {a : Act} {K : Act → World → Prop} {Q : Exit → Act → World → Prop} (t : TypeId) (m s x : Operand) (ho : o.op = .entryStore t m s x) (w' : World) (mv sv xv : Value) (hm : a.eval m = mv) (hs : a.eval s = sv) (hx : a.eval x = xv) (hr : (Instr.entryStore t mv sv xv).run P w = .ok () w')
    (h : K (a.put o.dst undef) w') : Oper.wp P o a w K Q := by
  unfold Oper.wp
  simp [execOp, ho, hm, hs, hx, hr, Result.andThen]
  exact h
end Go.Proofs.Ytmhifofeobhhgaa
