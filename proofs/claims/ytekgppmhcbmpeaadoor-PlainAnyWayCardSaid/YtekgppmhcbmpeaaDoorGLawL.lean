/-
  DERIVED. PlainLooks: what its walk keeps.
-/
import Derived.Test.YtekgppmhcbmpeaaDoorGLawT
import Derived.Test.YtekgppmhcbmpeaaDoorGHist
set_option linter.unusedVariables false
set_option linter.unusedSimpArgs false
namespace Go.Proofs.YtekgppmhcbmpeaaDoor
open Go.RowKit Go.Proofs.BitMath
theorem cnts_uncons {m : Nat} {hs : List Ht} {x : Ht} {d : Nat} (hd : x.d = (d : Int)) (h : d < m) : (cnts m (x :: hs)).set d ((cnt (x :: hs) d : Int) - 1) = cnts m hs := by
  apply List.ext_getElem?
  intro j
  rw [List.getElem?_set, cnts_len]
  by_cases hj : j < m
  · rw [cnts_get (hs := x :: hs) hj, cnts_get (hs := hs) hj]
    by_cases e : d = j
    · subst e
      rw [if_pos rfl, if_pos hj]
      simp [cnt, hd]
    · rw [if_neg e]
      have : ¬ x.d = (j : Int) := by omega
      simp [cnt, this]
  · have e1 : (cnts m hs)[j]? = none := List.getElem?_eq_none (by rw [cnts_len]; omega)
    have e2 : (cnts m (x :: hs))[j]? = none := List.getElem?_eq_none (by rw [cnts_len]; omega)
    rw [e1, e2, if_neg (show ¬ d = j by omega)]
theorem Kept.nodup {wd : Int} {n : Nat} {L : List Pr} (h : Kept wd n L) (q : ByteArray) : (hitsOf q L).Nodup := hits_nodup (nodup_of_map h.nd)
theorem Kept.perm {wd : Int} {n : Nat} {L : List Pr} (h : Kept wd n L) (q : ByteArray) : (srtL (hitsOf q L)).Perm (hitsOf q L) := srtL_perm (h.nodup q)
theorem Kept.all {wd : Int} {n : Nat} {L : List Pr} (h : Kept wd n L) {q : ByteArray} (hq : q.size = n) : inD wd (hitsOf q L) = hitsOf q L := inD_all (fun x hx => by
  obtain ⟨y, hy, rfl⟩ := List.mem_map.1 hx
  exact h.le hq hy)
theorem Kept.len {wd : Int} {n : Nat} {L : List Pr} (h : Kept wd n L) (q : ByteArray) : (srtL (hitsOf q L)).length = L.length := by rw [(h.perm q).length_eq]; simp [hitsOf]
theorem Kept.ids {wd : Int} {n : Nat} {L : List Pr} (h : Kept wd n L) (q : ByteArray) : ((srtL (hitsOf q L)).map Ht.i).Nodup := by
  have : ((srtL (hitsOf q L)).map Ht.i).Perm ((hitsOf q L).map Ht.i) := (h.perm q).map _
  rw [this.nodup_iff]
  have e : (hitsOf q L).map Ht.i = L.map Pr.i := by simp [hitsOf, htOf]
  rw [e]; exact h.nd
theorem Kept.one {wd : Int} {n : Nat} {L : List Pr} (h : Kept wd n L) {q : ByteArray} (hq : q.size = n) {x : Ht} (hx : x ∈ srtL (hitsOf q L)) : x.c.size = n ∧ x.d = (dQ q x.c : Int) ∧ (dQ q x.c : Int) ≤ wd ∧ I64 x.i ∧ getE L x.i = (x.c, 0) := by
  rw [srtL_mem] at hx
  obtain ⟨y, hy, rfl⟩ := List.mem_map.1 hx
  have hw := h.fit y hy
  refine ⟨h.size hy, rfl, h.le hq hy, ⟨?_, ?_⟩, ?_⟩
  · show _ ≤ y.i; have := hw.1; omega
  · show y.i ≤ _; have := hw.2.1; omega
  · unfold getE
    have e : getP L (htOf q y).i = some y := getP_of h.nd hy
    rw [if_pos ⟨hw.1, hw.2.1⟩, e]; rfl
theorem drewN_below (B : Nat) (w : World) (k : Nat) : Below B w (w.drewN k) := Drew.below ⟨k, rfl⟩ B
/-- The searches' answers in memory. -/
structure Asked (w W : World) (wd : Int) (n m p mb cb : Nat) (L : List Pr) (q : ByteArray) (X T B : List Ht) (K : Nat) (R : Int) (a7 a8 a9 : Option Addr) : Prop where
  k : Kept wd n L
  q' : q.size = n
  hX : X = srtL (hitsOf q L)
  hT : T = X.take K
  hB : B = inD R X
  la : LAt W a7 X
  lt : LAt W a8 T
  lb : LAt W a9 B
  old : ∀ g off, (a7 = some ⟨g, off, none⟩ ∨ a8 = some ⟨g, off, none⟩ ∨ a9 = some ⟨g, off, none⟩) → g ≠ cb
  row : IRow W cb m (cnts m X)
  mp : MP W p mb wd L L.length
  pc : p ≠ cb ∧ mb ≠ cb
  tab : Tab W
  t0 : 0 ≠ cb
  m1 : (m : Int) = wd + 1
  st : Below w.heap.size w W
  cw : w.heap.size ≤ cb
/-- What the first loop keeps. -/
structure LL (W wr : World) (cb m : Nat) (X : List Ht) (i : Nat) : Prop where
  row : IRow wr cb m (cnts m (X.drop i))
  st : Stay (fun j => j = cb) W wr
def RLo (W : World) (cb m : Nat) (X : List Ht) (iv : Value) (wr : World) : Prop := ∃ (i : Nat), iv = .int .i64 i ∧ i ≤ X.length ∧ Hid (LL W wr cb m X i)
def RLn (W : World) (X : List Ht) (R : Int) (nv : Value) (wr : World) : Prop := ∃ (n : Nat), nv = .int .i64 n ∧ n ≤ X.length ∧ Hid (∀ j (hj : j < n) (hl : j < X.length), X[j].d ≤ R) ∧ Drew W wr
theorem lat_stay {W wr : World} {cb : Nat} {a : Option Addr} {l : List Ht} (h : LAt W a l) (s : Stay (fun j => j = cb) W wr) (ho : ∀ g off, a = some ⟨g, off, none⟩ → g ≠ cb) : LAt wr a l := ⟨fun hn => by
  obtain ⟨g, off, e, hr⟩ := h.at' hn
  have hg := h.lt e hn
  have hb := s.block g hg (ho g off e)
  exact ⟨g, off, e, fun j x hx => by rw [← hr j x hx]; simp only [World.cell?, hb]⟩⟩
theorem tab_stay {W wr : World} {cb : Nat} (h : Tab W) (s : Stay (fun j => j = cb) W wr) (h0 : 0 ≠ cb) : Tab wr := fun i hi => by
  have hb := s.block 0 h.lt h0
  rw [← h i hi]; simp only [World.cell?, hb]
theorem LL.start {w W : World} {wd : Int} {n m p mb cb : Nat} {L : List Pr} {q : ByteArray} {X T B : List Ht} {K : Nat} {R : Int} {a7 a8 a9 : Option Addr} (h : Asked w W wd n m p mb cb L q X T B K R a7 a8 a9) : LL W W cb m X 0 := ⟨by rw [List.drop_zero]; exact h.row, .refl _ _⟩
/-- One more was counted down. -/
theorem LL.step {W wr wx : World} {cb m : Nat} {X : List Ht} {i d : Nat} (h : LL W wr cb m X i) (b : Below wr.heap.size wr wx) (hi : i < X.length) (hd : X[i].d = (d : Int)) (hdm : d < m) :
    wx.cell? ⟨cb, d, none⟩ = some (.int .i64 (cnt (X.drop i) d : Nat)) ∧ wx.frozen? ⟨cb, d, none⟩ = false ∧ LL W (wx.setCell ⟨cb, d, none⟩ (.int .i64 ((cnt (X.drop i) d : Int) - 1))) cb m X (i + 1) := by
  have hr : IRow wx cb m (cnts m (X.drop i)) := row_kept (F := fun _ => False) h.row (.below b) (fun _ _ h => h)
  refine ⟨?_, hr.frozenAt d, ⟨?_, Stay.setCell (h.st.trans (.below b)) (fun _ => rfl) _⟩⟩
  · rw [hr.cellAt d (by omega), List.getElem?_map, cnts_get hdm]; rfl
  · have hst := (hr.stored d (.int .i64 ((cnt (X.drop i) d : Int) - 1))).1
    have e : X.drop i = X[i] :: X.drop (i + 1) := List.drop_eq_getElem_cons hi
    have e2 := cnts_uncons (m := m) (hs := X.drop (i + 1)) hd hdm
    rw [← e] at e2
    unfold IRow
    rw [← e2, List.map_set]
    exact hst
end Go.Proofs.YtekgppmhcbmpeaaDoor
