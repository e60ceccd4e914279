/-
  DERIVED. A request: cleared, looked at, written.
-/
import Derived.Test.YtjdknijjkjmafaaWChk
import Derived.Test.YtjdknijjkjmafaaWBegin
set_option linter.unusedVariables false
set_option linter.unusedSimpArgs false
namespace Go.Proofs.Ytjdknijjkjmafaa
open Go.RowKit Go.Proofs.SealMath
structure Rq where
  op : Int
  id : Int
  c : ByteArray
  k : Int
  r : Int
abbrev rqV (q : Rq) : Array Value := #[.int .i64 q.op, .int .i64 q.id, .string q.c, .int .i64 q.k, .int .i64 q.r]
abbrev eB : ByteArray := ⟨#[]⟩
/-- What operation i + 1 names is cleared. -/
def clQ (i : Nat) (q : Rq) : Rq :=
  match i with
  | 0 => ⟨q.op, 0, eB, q.k, q.r⟩
  | 1 => ⟨q.op, 0, q.c, q.k, q.r⟩
  | 2 => ⟨q.op, 0, q.c, q.k, q.r⟩
  | 3 => ⟨q.op, q.id, eB, 0, q.r⟩
  | 4 => ⟨q.op, q.id, eB, q.k, 0⟩
  | _ => q
/-- .. is looked at. -/
def ckQ (i : Nat) (q : Rq) : Bool × Bool :=
  match i with
  | 0 => (decide (q.id < 0), decide (65536 < q.c.size))
  | 1 => (decide (q.id < 0), false)
  | 2 => (decide (q.id < 0), false)
  | 3 => (decide (q.k < 0), decide (65536 < q.c.size))
  | 4 => (decide (q.r < 0), decide (65536 < q.c.size))
  | _ => (false, false)
abbrev wrT (t : ByteArray) : List UInt8 := pvL 9 t.size ++ t.data.toList
abbrev wrN (n : Int) : List UInt8 := pvL 9 n.toNat
/-- .. is written. -/
def wrQ (i : Nat) (q : Rq) : List UInt8 :=
  match i with
  | 0 => wrN q.id ++ wrT q.c
  | 1 => wrN q.id
  | 2 => wrN q.id
  | 3 => wrT q.c ++ wrN q.k
  | 4 => wrT q.c ++ wrN q.r
  | _ => []
theorem rqF_none {i : Nat} (h : 5 ≤ i) : rqF i = 74 := by
  match i, h with
  | _ + 5, _ => rfl
theorem bx_kept {w w1 : World} {H : Hn} {F : Nat → Prop} (s : Stay F (w.alloc H.box).drew w1) (hF : ¬ F w.heap.size) : w1.heap[w.heap.size]? = some H.box :=
  HC.stay (w := (w.alloc H.box).drew) (heap_alloc_last w H.box) s hF
theorem bx_stay {w w1 : World} {H : Hn} {F : Nat → Prop} (s : Stay F (w.alloc H.box).drew w1) : Stay F w w1 := (((Stay.refl F w).alloc H.box).drew).trans s
theorem bx_kept2 {w w1 w2 : World} {H : Hn} {F : Nat → Prop} (h : w1.heap[w.heap.size]? = some H.box) (s : Stay F w1.drew w2) (hF : ¬ F w.heap.size) : w2.heap[w.heap.size]? = some H.box :=
  HC.stay (w := w1.drew) h s hF
theorem rq_clear (i : Nat) (hi : i < 9) (q : Rq) (w : World) (g : Nat) (hg : HC w g (rqV q) 40) :
    Calls Try.prog (rqF i) #[Pt g, clH.v] w fun e w' => e = Un ∧ HC w' g (rqV (clQ i q)) 40 ∧ Stay (· = g) w w' := by
  have lg := HC.lt hg
  have E := clH_ent
  have hA : HC (w.alloc clH.box).drew g (rqV q) 40 := HC.drew (hg.alloc _)
  have hc : i = 0 ∨ i = 1 ∨ i = 2 ∨ i = 3 ∨ i = 4 ∨ 5 ≤ i := by omega
  have nF : ¬ w.heap.size = g := by omega
  rcases hc with rfl | rfl | rfl | rfl | rfl | hi5
  · refine idAndCode_g clH g w _ E.1 E.2.1 ?_
    refine (clr1_any _ g 1 _ _ q.id hA rfl).mono ?_
    rintro e w1 ⟨rfl, g1, s1⟩
    refine ⟨rfl, bx_kept s1 nF, ?_⟩
    refine (clr2_any _ g 2 _ _ q.c (HC.drew g1) rfl).mono ?_
    rintro e w2 ⟨rfl, g2, s2⟩
    exact ⟨rfl, bx_kept2 (bx_kept s1 nF) s2 nF, rfl, g2, (bx_stay s1).drew.trans s2⟩
  · refine id_g clH g w _ E.1 ?_
    refine (clr1_any _ g 1 _ _ q.id hA rfl).mono ?_
    rintro e w1 ⟨rfl, g1, s1⟩
    exact ⟨rfl, bx_kept s1 nF, rfl, g1, bx_stay s1⟩
  · refine id_g clH g w _ E.1 ?_
    refine (clr1_any _ g 1 _ _ q.id hA rfl).mono ?_
    rintro e w1 ⟨rfl, g1, s1⟩
    exact ⟨rfl, bx_kept s1 nF, rfl, g1, bx_stay s1⟩
  · refine codeAndK_g clH g w _ E.1 E.2.1 ?_
    refine (clr2_any _ g 2 _ _ q.c hA rfl).mono ?_
    rintro e w1 ⟨rfl, g1, s1⟩
    refine ⟨rfl, bx_kept s1 nF, ?_⟩
    refine (clr1_any _ g 3 _ _ q.k (HC.drew g1) rfl).mono ?_
    rintro e w2 ⟨rfl, g2, s2⟩
    exact ⟨rfl, bx_kept2 (bx_kept s1 nF) s2 nF, rfl, g2, (bx_stay s1).drew.trans s2⟩
  · refine codeAndR_g clH g w _ E.1 E.2.1 ?_
    refine (clr2_any _ g 2 _ _ q.c hA rfl).mono ?_
    rintro e w1 ⟨rfl, g1, s1⟩
    refine ⟨rfl, bx_kept s1 nF, ?_⟩
    refine (clr1_any _ g 4 _ _ q.r (HC.drew g1) rfl).mono ?_
    rintro e w2 ⟨rfl, g2, s2⟩
    exact ⟨rfl, bx_kept2 (bx_kept s1 nF) s2 nF, rfl, g2, (bx_stay s1).drew.trans s2⟩
  · have e6 : clQ i q = q := by
      have : i = 5 ∨ i = 6 ∨ i = 7 ∨ i = 8 := by omega
      rcases this with rfl | rfl | rfl | rfl <;> rfl
    rw [rqF_none hi5, e6]
    exact nothingAsked_g clH g w _ ⟨rfl, hg.alloc _, (Stay.refl _ w).alloc _⟩
theorem rq_check (i : Nat) (hi : i < 9) (q : Rq) (w : World) (c g : Nat) (hg : HC w g (rqV q) 40) (h : CkAt w c false false 0) :
    Calls Try.prog (rqF i) #[Pt g, (ckH c).v] w fun e w' => e = Un ∧ CkAt w' c (ckQ i q).1 (ckQ i q).2 0 ∧ Stay (· = c) w w' := by
  have lg := HC.lt hg
  have lc := HC.lt h
  have hne : g ≠ c := HC.ne hg h (by decide)
  have E := ckH_ent c
  have hA : HC (w.alloc (ckH c).box).drew g (rqV q) 40 := HC.drew (hg.alloc _)
  have cA : CkAt (w.alloc (ckH c).box).drew c false false 0 := HC.drew (h.alloc _)
  have hcc : i = 0 ∨ i = 1 ∨ i = 2 ∨ i = 3 ∨ i = 4 ∨ 5 ≤ i := by omega
  have nF : ¬ w.heap.size = c := by omega
  rcases hcc with rfl | rfl | rfl | rfl | rfl | hi5
  · refine idAndCode_g (ckH c) g w _ E.1 E.2.1 ?_
    refine (cnumber_any q.id _ _ _ _ c g 1 cA (hA.cell rfl)).mono ?_
    rintro e w1 ⟨rfl, g1, s1⟩
    refine ⟨rfl, bx_kept s1 nF, ?_⟩
    refine (ctext_any q.c _ _ _ _ c g 2 (HC.drew g1) ((HC.drew (hA.stay s1 hne)).cell rfl)).mono ?_
    rintro e w2 ⟨rfl, g2, s2⟩
    exact ⟨rfl, bx_kept2 (bx_kept s1 nF) s2 nF, rfl, by simpa [ckQ] using g2, (bx_stay s1).drew.trans s2⟩
  · refine id_g (ckH c) g w _ E.1 ?_
    refine (cnumber_any q.id _ _ _ _ c g 1 cA (hA.cell rfl)).mono ?_
    rintro e w1 ⟨rfl, g1, s1⟩
    exact ⟨rfl, bx_kept s1 nF, rfl, by simpa [ckQ] using g1, bx_stay s1⟩
  · refine id_g (ckH c) g w _ E.1 ?_
    refine (cnumber_any q.id _ _ _ _ c g 1 cA (hA.cell rfl)).mono ?_
    rintro e w1 ⟨rfl, g1, s1⟩
    exact ⟨rfl, bx_kept s1 nF, rfl, by simpa [ckQ] using g1, bx_stay s1⟩
  · refine codeAndK_g (ckH c) g w _ E.1 E.2.1 ?_
    refine (ctext_any q.c _ _ _ _ c g 2 cA (hA.cell rfl)).mono ?_
    rintro e w1 ⟨rfl, g1, s1⟩
    refine ⟨rfl, bx_kept s1 nF, ?_⟩
    refine (cnumber_any q.k _ _ _ _ c g 3 (HC.drew g1) ((HC.drew (hA.stay s1 hne)).cell rfl)).mono ?_
    rintro e w2 ⟨rfl, g2, s2⟩
    exact ⟨rfl, bx_kept2 (bx_kept s1 nF) s2 nF, rfl, by simpa [ckQ] using g2, (bx_stay s1).drew.trans s2⟩
  · refine codeAndR_g (ckH c) g w _ E.1 E.2.1 ?_
    refine (ctext_any q.c _ _ _ _ c g 2 cA (hA.cell rfl)).mono ?_
    rintro e w1 ⟨rfl, g1, s1⟩
    refine ⟨rfl, bx_kept s1 nF, ?_⟩
    refine (cnumber_any q.r _ _ _ _ c g 4 (HC.drew g1) ((HC.drew (hA.stay s1 hne)).cell rfl)).mono ?_
    rintro e w2 ⟨rfl, g2, s2⟩
    exact ⟨rfl, bx_kept2 (bx_kept s1 nF) s2 nF, rfl, by simpa [ckQ] using g2, (bx_stay s1).drew.trans s2⟩
  · have e6 : ckQ i q = (false, false) := by
      have : i = 5 ∨ i = 6 ∨ i = 7 ∨ i = 8 := by omega
      rcases this with rfl | rfl | rfl | rfl <;> rfl
    rw [rqF_none hi5, e6]
    exact nothingAsked_g (ckH c) g w _ ⟨rfl, h.alloc _, (Stay.refl _ w).alloc _⟩
theorem wt_kept {w w1 : World} {H : Hn} {b : Nat} {v v1 : Value} {l : List UInt8} (h : Wt (w.alloc H.box).drew w1 b v v1 l) (hb : b < w.heap.size) (hv : ∀ k, v.ownBlock = some k → k < w.heap.size) : w1.heap[w.heap.size]? = some H.box :=
  bx_kept h.st (fun e => by rcases e with e | e; omega; have := hv _ e; omega)
theorem wt_drew {w w1 : World} {b : Nat} {v v1 : Value} {l : List UInt8} (h : Wt w.drew w1 b v v1 l) : Wt w w1 b v v1 l := ⟨h.bd, (Stay.refl _ w).drew.trans h.st, h.loc⟩
theorem wt_box {w w1 : World} {H : Hn} {b : Nat} {v v1 : Value} {l : List UInt8} (h : Wt (w.alloc H.box).drew w1 b v v1 l) : Wt w w1 b v v1 l := Wt.pre ((Below.refl _ w).alloc (Nat.le_refl _) _) (wt_drew h)
theorem Bd.drew {w : World} {b : Nat} {p v : Value} {l : List UInt8} (h : Bd w b p v l) : Bd w.drew b p v l := h.kept (F := fun _ => False) ((Stay.refl _ w).drew) (fun h => h) (fun _ _ h => h)
theorem Bd.alloc {w : World} {b : Nat} {p v : Value} {l : List UInt8} (h : Bd w b p v l) (o : Obj) : Bd (w.alloc o) b p v l := h.below ((Below.refl _ w).alloc (Nat.le_refl _) _)
end Go.Proofs.Ytjdknijjkjmafaa
