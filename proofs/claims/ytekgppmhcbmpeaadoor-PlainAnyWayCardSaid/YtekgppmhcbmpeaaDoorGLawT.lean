/-
  DERIVED. PlainTriangle: its walk.
-/
import Derived.Test.YtekgppmhcbmpeaaDoorGBegun
set_option linter.unusedVariables false
set_option linter.unusedSimpArgs false
namespace Go.Proofs.YtekgppmhcbmpeaaDoor
open Go.RowKit Go.Proofs.BitMath
/-- The pairs of a law are such as a map may keep, of unlike ids. -/
structure Kept (wd : Int) (n : Nat) (L : List Pr) : Prop where
  fit : ∀ x ∈ L, PrW wd x
  nd : (L.map Pr.i).Nodup
  wd' : isW wd = true
  n8 : wd / 8 = n
theorem FI.kept {w wr : World} {wd : Int} {v : Value} {p mb n : Nat} {L : List Pr} (h : FI w wr wd v p mb L) (hn : wd / 8 = n) : Kept wd n L := ⟨h.mp.fit, h.mp.pm.nd, h.mp.isW, hn⟩
theorem Kept.mem {wd : Int} {n : Nat} {L : List Pr} (h : Kept wd n L) {q : ByteArray} {r : Int} {x : Ht} (hx : x ∈ srtL (inD r (hitsOf q L))) : ∃ y ∈ L, x = htOf q y ∧ (dQ q y.c : Int) ≤ r := by
  rw [srtL_mem, inD_mem] at hx
  obtain ⟨y, hy, rfl⟩ := List.mem_map.1 hx.1
  exact ⟨y, hy, rfl, hx.2⟩
theorem Kept.size {wd : Int} {n : Nat} {L : List Pr} (h : Kept wd n L) {y : Pr} (hy : y ∈ L) : y.c.size = n := by
  have := (h.fit y hy).2.2
  have := h.n8
  omega
theorem Kept.le {wd : Int} {n : Nat} {L : List Pr} (h : Kept wd n L) {q : ByteArray} (hq : q.size = n) {y : Pr} (hy : y ∈ L) : (dQ q y.c : Int) ≤ wd := by
  have h1 := dQ_le (q := q) (c := y.c) (by rw [hq, h.size hy])
  have h2 := isW_mod h.wd'
  have h3 := h.n8
  omega
theorem any_tk (Y : List Ht) (i : Int) (j : Nat) (hj : j < Y.length) : (Y.take (j + 1)).any (fun y => y.i == i) = ((Y.take j).any (fun y => y.i == i) || (Y[j].i == i)) := by
  rw [List.take_succ_eq_append_getElem hj, List.any_append]; simp
/-- Of two hits of one id, from two questions: one code, and no further apart than the questions. -/
theorem tri_hit {wd : Int} {n : Nat} {L : List Pr} (h : Kept wd n L) {q p : ByteArray} (hq : q.size = n) (hp : p.size = n) {r far : Int} {a b : Ht} (ha : a ∈ srtL (inD r (hitsOf q L))) (hb : b ∈ srtL (inD far (hitsOf p L))) (e : b.i = a.i) :
    b.c = a.c ∧ b.d - a.d ≤ (dQ q p : Int) ∧ -(b.d - a.d) ≤ (dQ q p : Int) ∧ 0 ≤ a.d ∧ a.d ≤ 1024 ∧ 0 ≤ b.d ∧ b.d ≤ 1024 := by
  obtain ⟨y, hy, rfl, _⟩ := h.mem ha
  obtain ⟨z, hz, rfl, _⟩ := h.mem hb
  have hyz : z = y := nd_eq h.nd hz hy e
  subst hyz
  have s1 := h.size hz
  have t1 := dQ_tri (a := p) (b := z.c) (c := q) (by omega) (by omega)
  have t2 := dQ_tri (a := q) (b := z.c) (c := p) (by omega) (by omega)
  have e2 := dQ_comm p q
  have l1 := h.le hq hz
  have l2 := h.le hp hz
  have hb := isW_bd h.wd'
  refine ⟨rfl, ?_, ?_, ?_, ?_, ?_, ?_⟩
  · show (dQ p z.c : Int) - (dQ q z.c : Int) ≤ _; omega
  · show -((dQ p z.c : Int) - (dQ q z.c : Int)) ≤ _; omega
  · show 0 ≤ (dQ q z.c : Int); omega
  · show (dQ q z.c : Int) ≤ 1024; omega
  · show 0 ≤ (dQ p z.c : Int); omega
  · show (dQ p z.c : Int) ≤ 1024; omega
def FarOk (far r d wd : Int) : Prop := far = r + d ∨ far = wd
theorem tri_there {wd : Int} {n : Nat} {L : List Pr} (h : Kept wd n L) {q p : ByteArray} (hq : q.size = n) (hp : p.size = n) {r far : Int} (hf : FarOk far r (dQ q p) wd) {a : Ht} (ha : a ∈ srtL (inD r (hitsOf q L))) :
    (srtL (inD far (hitsOf p L))).any (fun y => y.i == a.i) = true := by
  obtain ⟨y, hy, rfl, hr⟩ := h.mem ha
  rw [List.any_eq_true]
  refine ⟨htOf p y, ?_, by simp [htOf]⟩
  rw [srtL_mem, inD_mem]
  refine ⟨List.mem_map_of_mem hy, ?_⟩
  have s1 := h.size hy
  have t1 := dQ_tri (a := p) (b := y.c) (c := q) (by omega) (by omega)
  have e2 := dQ_comm p q
  have l2 := h.le hp hy
  show (dQ p y.c : Int) ≤ far
  rcases hf with rfl | rfl <;> omega
def RTi (W : World) (a : Int) (Y : List Ht) (tv jv : Value) (wr : World) : Prop := ∃ (j : Nat) (tw : Bool), tv = .bool tw ∧ jv = .int .i64 j ∧ j ≤ Y.length ∧ Hid (tw = (Y.take j).any (fun y => y.i == a)) ∧ Drew W wr
def RTo (W : World) (X : List Ht) (iv : Value) (wr : World) : Prop := ∃ (i : Nat), iv = .int .i64 i ∧ i ≤ X.length ∧ Drew W wr
/-- The two lists in memory. -/
structure TwoL (w W : World) (wd : Int) (n : Nat) (L : List Pr) (q p : ByteArray) (r far : Int) (X Y : List Ht) (a b : Option Addr) : Prop where
  k : Kept wd n L
  q' : q.size = n
  p' : p.size = n
  hX : X = srtL (inD r (hitsOf q L))
  hY : Y = srtL (inD far (hitsOf p L))
  f : FarOk far r (dQ q p) wd
  la : LAt W a X
  lb : LAt W b Y
  st : Below w.heap.size w W
def rOf (wd r d : Int) : Int := if r < 0 ∨ wd < r then d else r
theorem rOf_in {wd r d : Int} (h : isW wd = true) (hd : 0 ≤ d ∧ d ≤ 64) : 0 ≤ rOf wd r d ∧ rOf wd r d ≤ wd := by
  have := isW_bd h
  unfold rOf
  split <;> omega
end Go.Proofs.YtekgppmhcbmpeaaDoor
