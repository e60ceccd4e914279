/-
  DERIVED. What counts at the least place is taken.
-/
import Derived.Test.YtbkbnhdeleoibaaMState
set_option linter.unusedVariables false
set_option linter.unusedSimpArgs false
namespace Go.Proofs.Ytbkbnhdeleoibaa
open Go.RowKit
theorem MQ.least {w0 : World} {B m : Nat} {bxs : List Nat} {c0 c2 c3 lv : Value} {L ys ys' : List St} {rs : List (List En)} {W W1 : World} (h : MQ w0 B m bxs c0 c2 c3 (.slice none 0 0) [] ys [] rs W) (o : LO m c0 c2 c3 ys W lv L ys' W1) : MQ w0 B m bxs c0 c2 c3 lv L ys' L rs W1 := by
  obtain ⟨av, hm, hr, -⟩ := h.hm
  have hmlt : m < W.heap.size := (Array.getElem?_eq_some_iff.1 hm).1
  have f := o.li.fr
  have ob : ∀ k, av.ownBlock = some k → B ≤ k := fun k hk => h.rowB av k hm.cell.1 hk
  have hpm : (ys' ++ L).Perm ys := List.perm_append_comm.trans o.li.perm
  have mem : ∀ y, y ∈ ys' ++ L → y ∈ ys ++ [] := fun y hy => by rw [List.append_nil]; exact hpm.mem_iff.1 hy
  have hadr := h.adr
  have hnum := h.nums
  rw [List.append_nil] at hadr hnum
  exact {
    below := h.below.trans ⟨f.os, f.tape, f.output, f.size, fun k hk => f.at' hm k (Nat.lt_of_lt_of_le hk (Nat.le_trans h.mB (Nat.le_of_lt hmlt))) (fun e => by have := h.mB; omega) (fun e => by have := ob k e; omega)⟩
    mB := h.mB
    hm := o.li.hm
    rowB := fun u k h1 h2 => by
      rcases f.loc k u h1 h2 with ⟨u', h3, h4⟩ | h3
      · exact h.rowB u' k h3 h4
      · exact Nat.le_trans h.mB (Nat.le_trans (Nat.le_of_lt hmlt) h3)
    heap := o.li.heap
    len := h.len
    src := fun i x r h1 h2 => (h.src i x r h1 h2).frm h.hm f
    inj := h.inj
    st := fun y hy => h.st y (mem y hy)
    stP := o.li.row.st
    adr := (hpm.map St.a).nodup_iff.2 hadr
    nums := (hpm.map St.num).nodup_iff.2 hnum
    up := fun y hy => h.up y (mem y hy)
    ups := h.ups
    gvt := fun y hy => h.gvt y (hpm.mem_iff.1 (List.mem_append_left _ hy))
    row := o.li.row.own
    apart := fun u k h1 h2 => o.li.apart k u h2 h1
    small := h.small
    lvB := fun k hk => Nat.le_trans h.mB (Nat.le_trans (Nat.le_of_lt hmlt) (o.li.new k hk)) }
theorem MQ.sort {w0 : World} {B m : Nat} {bxs : List Nat} {c0 c2 c3 lv : Value} {L L' ys : List St} {rs : List (List En)} {W W1 : World} (h : MQ w0 B m bxs c0 c2 c3 lv L ys L rs W) (hp : L'.Perm L) (hr : SRow W1 lv L') (s : Stay (fun k => lv.ownBlock = some k) W W1) : MQ w0 B m bxs c0 c2 c3 lv L' ys L' rs W1 := by
  obtain ⟨av, hm, hrw, hl⟩ := h.hm
  have hmlt : m < W.heap.size := (Array.getElem?_eq_some_iff.1 hm).1
  have hsl : SRow W lv L := ⟨h.row, h.stP⟩
  have hlm : ∀ k, lv.ownBlock = some k → k ≠ m := fun k hk => hm.apart h.row hk
  have hm1 : Mb W1 m c0 av c2 c3 := (s.block m hmlt (fun e => hlm m e rfl)).trans hm
  have ec : W1.cell? ⟨m, 1, none⟩ = W.cell? ⟨m, 1, none⟩ := by rw [hm1.cell.1, hm.cell.1]
  have hB : ∀ k, k < B → lv.ownBlock ≠ some k := fun k hk e => by have := h.lvB k e; omega
  have hp2 : (ys ++ L').Perm (ys ++ L) := hp.append_left ys
  exact {
    below := h.below.trans (s.toBelow hB (Nat.le_trans h.mB (Nat.le_of_lt hmlt)))
    mB := h.mB
    hm := ⟨av, hm1, ⟨row_kept hrw.own s (fun k hk e => h.apart av k hm.cell.1 e hk), fun x hx => (s.block x.a (Array.getElem?_eq_some_iff.1 (hrw.st x hx)).1 (fun e => hsl.apart e (hrw.st x hx) rfl)).trans (hrw.st x hx)⟩, hl⟩
    rowB := fun u k h1 h2 => h.rowB u k (ec ▸ h1) h2
    heap := h.heap
    len := h.len
    src := fun i x r h1 h2 => (h.src i x r h1 h2).same (s.block x (h.src i x r h1 h2).lt (fun e => by
      obtain ⟨cur, hc⟩ := row_block h.row e
      obtain ⟨la, lc, hbx, -⟩ := (h.src i x r h1 h2).ex
      rw [hbx] at hc; simp at hc))
    inj := h.inj
    st := fun y hy => h.st y (hp2.mem_iff.1 hy)
    stP := hr.st
    adr := (hp2.map St.a).nodup_iff.2 h.adr
    nums := (hp2.map St.num).nodup_iff.2 h.nums
    up := fun y hy => h.up y (hp2.mem_iff.1 hy)
    ups := h.ups
    gvt := h.gvt
    row := hr.own
    apart := fun u k h1 h2 => h.apart u k (ec ▸ h1) h2
    small := h.small
    lvB := h.lvB }
/-- All are asked, one behind the other. -/
def AskedAll : List St → List St → List St → List (List En) → List (List En) → Prop
  | [], ys, ys2, rs, rs2 => ys2 = ys ∧ rs2 = rs
  | s :: P, ys, ys2, rs, rs2 => ∃ ys1 rs1, Asked s ys ys1 rs rs1 ∧ AskedAll P ys1 ys2 rs1 rs2
theorem AskedAll.nil (ys : List St) (rs : List (List En)) : AskedAll [] ys ys rs rs := ⟨rfl, rfl⟩
theorem AskedAll.cons {s : St} {P ys ys1 ys2 : List St} {rs rs1 rs2 : List (List En)} (h : Asked s ys ys1 rs rs1) (k : AskedAll P ys1 ys2 rs1 rs2) : AskedAll (s :: P) ys ys2 rs rs2 := ⟨_, _, h, k⟩
theorem AskedAll.ind {C : (P ys ys2 : List St) → (rs rs2 : List (List En)) → AskedAll P ys ys2 rs rs2 → Prop} (nil : ∀ (ys : List St) (rs : List (List En)), C [] ys ys rs rs (.nil ys rs)) (cons : ∀ {s : St} {P ys ys1 ys2 : List St} {rs rs1 rs2 : List (List En)} (h : Asked s ys ys1 rs rs1) (k : AskedAll P ys1 ys2 rs1 rs2), C P ys1 ys2 rs1 rs2 k → C (s :: P) ys ys2 rs rs2 (.cons h k)) : ∀ {P ys ys2 : List St} {rs rs2 : List (List En)} (k : AskedAll P ys ys2 rs rs2), C P ys ys2 rs rs2 k
  | [], ys, _, rs, _, ⟨rfl, rfl⟩ => nil ys rs
  | s :: P, ys, ys2, rs, rs2, ⟨_, _, h, k⟩ => cons h k (AskedAll.ind nil cons k)
/-- Two of one place with one Seq stand side by side. -/
def dupAt (L : List St) (i : Nat) : Prop := ∃ a b, L[i]? = some a ∧ L[i + 1]? = some b ∧ a.e.s = b.e.s
def R1t (L : List St) (W1 : World) (iv : Value) (wr : World) : Prop := ∃ i : Nat, iv = .int .i64 ((i : Int) + 1) ∧ (i = 0 ∨ i < L.length) ∧ (∀ j, j < i → ¬ dupAt L j) ∧ Below W1.heap.size W1 wr
set_option maxRecDepth 10000 in
theorem t_num {i : Nat} (h : i < 100000) : IntKind.i64.wrap ((i : Int) + 1 - 1) = (i : Int) ∧ IntKind.i64.wrap (i : Int) = (i : Int) ∧ IntKind.i64.wrap ((i : Int) + 1 + 1) = (i : Int) + 1 + 1 := by
  refine ⟨?_, ?_, ?_⟩ <;> rw [IntKind.wrap_i64] <;> omega
/-- A variable of entries is written meanwhile. -/
theorem MQ.en {w0 : World} {B m : Nat} {bxs : List Nat} {c0 c2 c3 lv : Value} {LL ys P : List St} {rs : List (List En)} {W W' : World} {q : Nat} {cur : Array Value} {fr : Nat × Nat} (h : MQ w0 B m bxs c0 c2 c3 lv LL ys P rs W) (s : Stay (fun k => k = q) W W') (hq : W.heap[q]? = some (.cells cur 36 fr)) (hB : B ≤ q) : MQ w0 B m bxs c0 c2 c3 lv LL ys P rs W' := by
  obtain ⟨av, hm, hr, hl⟩ := h.hm
  have hmlt : m < W.heap.size := (Array.getElem?_eq_some_iff.1 hm).1
  have hqm : m ≠ q := fun e => by
    have h1 := hm
    unfold Mb at h1
    rw [e, hq] at h1; simp at h1
  have hqs : ∀ y, StAt W y → y.a ≠ q := fun y hy e => by
    unfold StAt at hy
    rw [e, hq] at hy; simp at hy
  have hqr : ∀ {v : Value} {n : Nat} {xs : List Value}, W.ownsRow 0 65 1 v n xs → ∀ k, v.ownBlock = some k → k ≠ q := fun ho k hk e => by
    obtain ⟨c, hc⟩ := row_block ho hk
    rw [e, hq] at hc; simp at hc
  have hm1 : Mb W' m c0 av c2 c3 := (s.block m hmlt hqm).trans hm
  have ec : W'.cell? ⟨m, 1, none⟩ = W.cell? ⟨m, 1, none⟩ := by rw [hm1.cell.1, hm.cell.1]
  exact { h with
    below := h.below.trans (s.toBelow (fun k hk e => by omega) (Nat.le_trans h.mB (Nat.le_of_lt hmlt)))
    hm := ⟨av, hm1, hr.keep s (fun k hk => hqr hr.own k hk) (fun x hx => hqs x (hr.st x hx)), hl⟩
    rowB := fun u k h1 h2 => h.rowB u k (ec ▸ h1) h2
    src := fun i x r h1 h2 => (h.src i x r h1 h2).same (s.block x (h.src i x r h1 h2).lt (fun e => by
      obtain ⟨la, lc, hbx, -⟩ := (h.src i x r h1 h2).ex
      rw [e, hq] at hbx; simp at hbx))
    stP := fun y hy => (s.block y.a (Array.getElem?_eq_some_iff.1 (h.stP y hy)).1 (hqs y (h.stP y hy))).trans (h.stP y hy)
    row := row_kept h.row s (fun k hk => hqr h.row k hk)
    apart := fun u k h1 h2 => h.apart u k (ec ▸ h1) h2 }
/-- What is known of the ones that were taken out. -/
structure LP (ys L ys' : List St) : Prop where
  perm : (L ++ ys').Perm ys
  ne : L ≠ []
  same : ∀ a ∈ L, ∀ b ∈ L, cpE a.e b.e = 0
  srt : L.Pairwise (fun a b => ltS b a = false)
  le : ∀ a ∈ L, ∀ b ∈ ys', ltS b a = false
  all : ∀ a ∈ L, ∀ b ∈ ys', cpE b.e a.e ≠ 0
/-- What take comes to. -/
def TakeO (w0 : World) (B m : Nat) (bxs : List Nat) (c0 c2 c3 : Value) (ys : List St) (rs : List (List En)) (W : World) (r : Ending) (W' : World) : Prop :=
  KeepEn W W' ∧ ∃ L ys', LP ys L ys' ∧
    (((∃ i, dupAt L i) ∧ r = .returned (.tuple #[zeroE, .int .i64 51]) ∧ ∃ lv, MQ w0 B m bxs c0 c2 c3 lv L ys' L rs W') ∨
     ((∀ i, ¬ dupAt L i) ∧ ∃ a L' ys2 rs2, L[L.length - 1]? = some a ∧ r = .returned (.tuple #[.agg (enC a.e).toArray, .int .i64 0]) ∧ L'.Perm L ∧ L'.Pairwise (fun a b => a.num ≤ b.num) ∧ AskedAll L' ys' ys2 rs rs2 ∧ MQ w0 B m bxs c0 c2 c3 (.slice none 0 0) [] ys2 [] rs2 W'))
theorem en_cells {W : World} {k : Nat} {e : En} (h : W.heap[k]? = some (.cells (enC e).toArray 36 (0, 0))) : (W.cell? ⟨k, 0, none⟩ = some (.int .i64 e.v) ∧ W.cell? ⟨k, 1, none⟩ = some (.string e.c) ∧ W.cell? ⟨k, 2, none⟩ = some (.int .i64 e.i) ∧ W.cell? ⟨k, 3, none⟩ = some (.int .i64 e.s) ∧ W.cell? ⟨k, 4, none⟩ = some (.bool e.d)) ∧ ∀ j, W.frozen? ⟨k, j, none⟩ = false := by
  refine ⟨⟨?_, ?_, ?_, ?_, ?_⟩, fun j => frozen_of_row _ _ _ _ _ h⟩ <;> rw [cell_of_row _ _ _ _ _ (0, 0) h] <;> rfl
theorem MQ.nil {w0 : World} {B m : Nat} {bxs : List Nat} {c0 c2 c3 lv : Value} {LL ys : List St} {rs : List (List En)} {W : World} (h : MQ w0 B m bxs c0 c2 c3 lv LL ys [] rs W) : MQ w0 B m bxs c0 c2 c3 (.slice none 0 0) [] ys [] rs W :=
  { h with row := ⟨rfl, .inl ⟨rfl, rfl⟩⟩, apart := (fun _ _ _ hk => by cases hk), lvB := (fun _ hk => by cases hk) }
theorem AskedAll.snoc {P : List St} {s : St} {ys ys1 ys2 : List St} {rs rs1 rs2 : List (List En)} (h : AskedAll P ys ys1 rs rs1) (k : Asked s ys1 ys2 rs1 rs2) : AskedAll (P ++ [s]) ys ys2 rs rs2 := by
  induction h using AskedAll.ind with
  | nil ys rs => exact .cons k (.nil _ _)
  | cons h1 _ ih => exact .cons h1 (ih k)
theorem Asked.len {s : St} {ys ys1 : List St} {rs rs1 : List (List En)} (h : Asked s ys ys1 rs rs1) : ys1.length ≤ ys.length + 1 := by
  rcases h with ⟨-, rfl, -⟩ | ⟨e, r, -, hp, -⟩
  · omega
  · rw [hp.length_eq]; simp
/-- A variable of entries holds this one now. -/
def put0 (X : World) (q : Nat) (e : En) : World := ((((X.setCell ⟨q, 0, none⟩ (.int .i64 e.v)).setCell ⟨q, 1, none⟩ (.string e.c)).setCell ⟨q, 2, none⟩ (.int .i64 e.i)).setCell ⟨q, 3, none⟩ (.int .i64 e.s)).setCell ⟨q, 4, none⟩ (.bool e.d)
theorem put0_stay (X : World) (q : Nat) (e : En) : Stay (fun k => k = q) X (put0 X q e) := stay_one _ _ _ _ _ (stay_one _ _ _ _ _ (stay_one _ _ _ _ _ (stay_one _ _ _ _ _ (stay_one _ _ _ _ _ (.refl _ _)))))
theorem take_fin {w0 : World} {B m : Nat} {bxs : List Nat} {c0 c2 c3 lv : Value} {LL ys P : List St} {rs : List (List En)} {W X : World} (h : MQ w0 B m bxs c0 c2 c3 lv LL ys P rs X) (hk : KeepEn W X) (hX : ∃ cur, X.heap[W.heap.size]? = some (.cells cur 36 (0, 0))) (hB : B ≤ W.heap.size) (e : En) : MQ w0 B m bxs c0 c2 c3 lv LL ys P rs (put0 X W.heap.size e) ∧ KeepEn W (put0 X W.heap.size e) := by
  obtain ⟨cur, hc⟩ := hX
  have st := put0_stay X W.heap.size e
  refine ⟨h.en st hc hB, fun k c f hW => ?_⟩
  have hlt : k < W.heap.size := (Array.getElem?_eq_some_iff.1 hW).1
  have h1 := hk k c f hW
  exact (st.block k (Array.getElem?_eq_some_iff.1 h1).1 (fun e => by omega)).trans h1
def R2t (w0 : World) (B m : Nat) (bxs : List Nat) (c0 c2 c3 lv : Value) (L' ys' : List St) (rs : List (List En)) (W2 : World) (t : Nat) (wr : World) : Prop := ∃ ys1 rs1, t ≤ L'.length ∧ MQ w0 B m bxs c0 c2 c3 lv L' ys1 (L'.drop t) rs1 wr ∧ AskedAll (L'.take t) ys' ys1 rs rs1 ∧ KeepEn W2 wr ∧ ys1.length + (L'.length - t) ≤ 1024
theorem R2t.ask {w0 : World} {B m : Nat} {bxs : List Nat} {c0 c2 c3 lv : Value} {L' ys' : List St} {rs : List (List En)} {W2 wr : World} {t : Nat} (h : R2t w0 B m bxs c0 c2 c3 lv L' ys' rs W2 t wr) (ht : t < L'.length) :
    Calls Try.prog 34 #[.pointer (some ⟨m, 0, none⟩), .pointer (some ⟨L'[t].a, 0, none⟩)] wr fun r W' => r = .returned (.int .i64 0) ∧ R2t w0 B m bxs c0 c2 c3 lv L' ys' rs W2 (t + 1) W' := by
  obtain ⟨ys1, rs1, h1, h2, h3, h4, h5⟩ := h
  rw [List.drop_eq_getElem_cons ht] at h2
  have hd : (L'.drop (t + 1)).length = L'.length - (t + 1) := List.length_drop
  refine (h2.ask (by rw [hd]; omega)).mono ?_
  rintro r W' ⟨rfl, ys2, rs2, k1, k2, k3, -⟩
  refine ⟨rfl, ys2, rs2, ht, k1, ?_, h4.trans k3, ?_⟩
  · rw [List.take_succ_eq_append_getElem ht]
    exact h3.snoc k2
  · have := k2.len
    omega
set_option maxHeartbeats 4000000 in
set_option maxRecDepth 100000 in
theorem take_any {w0 : World} {B m : Nat} {bxs : List Nat} {c0 c2 c3 : Value} {ys : List St} {rs : List (List En)} {W : World} (h : MQ w0 B m bxs c0 c2 c3 (.slice none 0 0) [] ys [] rs W) (hne : ys ≠ []) (hy : ys.length ≤ 1024) :
    Calls Try.prog 29 #[.pointer (some ⟨m, 0, none⟩)] W fun r W' => TakeO w0 B m bxs c0 c2 c3 ys rs W r W' := by
  have bA : Below W.heap.size W (W.alloc (.cells #[.int .i64 0, .string ⟨#[]⟩, .int .i64 0, .int .i64 0, .bool false] 36)) := (Below.refl _ W).alloc (Nat.le_refl _) _
  have h0 := h.later bA
  have hR0 := heap_alloc_last W (.cells #[.int .i64 0, .string ⟨#[]⟩, .int .i64 0, .int .i64 0, .bool false] 36)
  obtain ⟨RB, hRB⟩ : ∃ RB, RB = W.heap.size := ⟨_, rfl⟩
  have hl := least_any ys m c0 c2 c3 _ h0.hm h0.heap
  have HH := Hid.mk (And.intro h0 (And.intro hR0 bA))
  clear h h0 hR0 bA hRB
  go_enter Try.func29, Try.ntmps29
  go_wp2_with (go_at_call 35; refine hl.mono ?_; clear hl; rintro r W1 ⟨lv, L, ys', rfl, o⟩; obtain ⟨la, lc, hlv, -⟩ := slice_form o.li.row.own; subst hlv; replace o := Hid.mk o)
  have hQ := HH.out.1.least o.out
  have hke : KeepEn W W1 := (KeepEn.below HH.out.2.2).trans (.frm HH.out.1.hm o.out.li.fr)
  have hR1 : W1.heap[W.heap.size]? = some (.cells (enC e0).toArray 36 (0, 0)) := KeepEn.frm HH.out.1.hm o.out.li.fr _ _ _ HH.out.2.1
  have hLP : LP ys L ys' := ⟨o.out.li.perm, o.out.some' hne, o.out.li.same, o.out.li.srt, o.out.li.le, o.out.all⟩
  have HK := Hid.mk (And.intro hke (And.intro hR1 hLP))
  have hBW : B ≤ W.heap.size := by
    have h1 := HH.out.1.mB
    obtain ⟨av, hm, -⟩ := HH.out.1.hm
    have h2 : m < (W.alloc (.cells #[.int .i64 0, .string ⟨#[]⟩, .int .i64 0, .int .i64 0, .bool false] 36)).heap.size := (Array.getElem?_eq_some_iff.1 hm).1
    simp at h2
    omega
  have HB := Hid.mk hBW
  clear hBW
  clear hke hR1 hLP
  have hLne : L ≠ [] := o.out.some' hne
  have hLl : L.length < 100000 := by
    have := o.out.li.perm.length_eq
    rw [List.length_append] at this
    omega
  have hSR : SRow W1 (.slice la L.length lc) L := o.out.li.row
  have hpos : 0 < L.length := List.length_pos_iff.2 hLne
  obtain ⟨g, gc, hg, -, -⟩ := hSR.at' 0 hpos
  simp only [Value.slice.injEq] at hg
  obtain ⟨rfl, -, rfl⟩ := hg
  obtain ⟨n, hn⟩ : ∃ n, n = L.length := ⟨_, rfl⟩
  have HQ := Hid.mk (And.intro hQ (And.intro hSR (And.intro hn (And.intro hLl hpos))))
  rw [← hn]
  clear hQ hLne hLl hSR hpos hn
  go_loopw [5] (fun iv wr => R1t L W1 iv wr) (fun iv _ => n + 1 - (intOf iv).toNat)
  case atStart => exact ⟨0, rfl, .inl rfl, fun j hj => absurd hj (Nat.not_lt_zero _), Below.refl _ _⟩
  case round =>
    obtain ⟨i, rfl, hi0, hnd, hb⟩ := hrel
    have hnl := HQ.out.2.2.1
    replace hnd := Hid.mk hnd
    by_cases hlt : i + 1 < n
    · have hiL : i + 1 < L.length := Nat.lt_of_lt_of_eq hlt hnl
      have hiL' : i < L.length := Nat.lt_of_succ_lt hiL
      have hSRw := HQ.out.2.1.below hb
      obtain ⟨g1, gc1, e1, p0, -⟩ := hSRw.at' i hiL'
      obtain ⟨g2, gc2, e2, p1, -⟩ := hSRw.at' (i + 1) hiL
      simp only [Value.slice.injEq, Option.some.injEq, Addr.mk.injEq] at e1 e2
      obtain ⟨⟨rfl, -, -⟩, -, rfl⟩ := e1
      obtain ⟨⟨rfl, -, -⟩, -, rfl⟩ := e2
      have hA := (hSRw.st L[i] (List.getElem_mem hiL')).cells 5 _ rfl
      have hBc := (hSRw.st L[i + 1] (List.getElem_mem hiL)).cells 5 _ rfl
      have q1 : L[i]? = some L[i] := List.getElem?_eq_getElem hiL'
      have q2 : L[i + 1]? = some L[i + 1] := List.getElem?_eq_getElem hiL
      obtain ⟨A, hAe⟩ : ∃ A, A = L[i] := ⟨_, rfl⟩
      obtain ⟨C, hCe⟩ : ∃ C, C = L[i + 1] := ⟨_, rfl⟩
      rw [← hAe] at p0 hA q1
      rw [← hCe] at p1 hBc q2
      have HP := Hid.mk (And.intro q1 (And.intro q2 hiL))
      obtain ⟨w1, w2, w3⟩ := t_num (i := i) (Nat.lt_trans hiL' HQ.out.2.2.2.1)
      have i1 : (i : Int) + 1 < (n : Int) := by
        have := Int.ofNat_lt.2 hlt
        simpa using this
      have i2 : (i : Int) < (n : Int) := Int.lt_trans (by omega) i1
      have i3 : (0 : Int) ≤ (i : Int) := Int.natCast_nonneg i
      clear hSRw hAe hCe q1 q2 hiL hiL' hi0 hnl
      by_cases heq : A.e.s = C.e.s
      · have heq' : (A.e.s == C.e.s) = true := by simpa using heq
        have hdup : ∃ i, dupAt L i := ⟨i, A, C, HP.out.1, HP.out.2.1, heq⟩
        obtain ⟨⟨x0, x1, x2, x3, x4⟩, xf⟩ := en_cells ((hb.block W.heap.size (Array.getElem?_eq_some_iff.1 HK.out.2.1).1).trans HK.out.2.1)
        simp only [e0] at x0 x1 x2 x3 x4
        have f0 := xf 0
        have f1 := xf 1
        have f2 := xf 2
        have f3 := xf 3
        have f4 := xf 4
        replace heq := Hid.mk heq
        replace hdup := Hid.mk hdup
        clear xf
        go_wp2
        go_quiet (fail)
        go_wp2
        refine bodyPost_ret (v := .tuple #[zeroE, .int .i64 51]) (by simp [results, Try.results29, go_sem, x0, x1, x2, x3, x4]; try rfl) rfl ?_
        obtain ⟨f1, f2⟩ := take_fin (HQ.out.1.later (hb.trans (Drew.below ⟨_, rfl⟩ _))) (HK.out.1.trans (.below (hb.trans (Drew.below ⟨_, rfl⟩ _)))) ⟨_, KeepEn.below (hb.trans (Drew.below ⟨_, rfl⟩ _)) _ _ _ HK.out.2.1⟩ HB.out e0
        exact ⟨f2, L, ys', HK.out.2.2, .inl ⟨hdup.out, rfl, _, f1⟩⟩
      · have heq' : (A.e.s == C.e.s) = false := by simpa using heq
        replace heq := Hid.mk heq
        go_wp2
        go_quiet (fail)
        go_wp2
        refine ⟨⟨i + 1, by rw [Int.natCast_add]; rfl, .inr HP.out.2.2, fun j hj => ?_, hb.trans (Drew.below ⟨_, rfl⟩ _)⟩, ?_⟩
        · by_cases e : j = i
          · subst e
            rintro ⟨a, b, h1, h2, h3⟩
            rw [HP.out.1] at h1
            rw [HP.out.2.1] at h2
            cases h1
            cases h2
            exact heq.out h3
          · exact hnd.out j (by omega)
        · simp only [intOf]; omega
    · have i1 : ¬ (i : Int) + 1 < (n : Int) := fun h => hlt (by
        have : ((i + 1 : Nat) : Int) < (n : Int) := by simpa using h
        exact Int.ofNat_lt.1 this)
      have hnone : ∀ j, ¬ dupAt L j := fun j hj => by
        obtain ⟨a, b, h1, h2, h3⟩ := id hj
        have := (List.getElem?_eq_some_iff.1 h2).1
        exact hnd.out j (by omega) hj
      replace hnone := Hid.mk hnone
      have hSRw := HQ.out.2.1.below hb
      have hp := HQ.out.2.2.2.2
      obtain ⟨g1, gc1, e1, p0, -⟩ := hSRw.at' (L.length - 1) (Nat.sub_lt hp Nat.one_pos)
      simp only [Value.slice.injEq, Option.some.injEq, Addr.mk.injEq] at e1
      obtain ⟨⟨rfl, -, -⟩, -, rfl⟩ := e1
      have hA := hSRw.st (L[L.length - 1]'(Nat.sub_lt hp Nat.one_pos)) (List.getElem_mem _)
      have qa : L[L.length - 1]? = some (L[L.length - 1]'(Nat.sub_lt hp Nat.one_pos)) := List.getElem?_eq_getElem _
      obtain ⟨A, hAe⟩ : ∃ A, A = L[L.length - 1]'(Nat.sub_lt hp Nat.one_pos) := ⟨_, rfl⟩
      rw [← hAe] at p0 hA qa
      have y0 := hA.cells 2 _ rfl
      have y1 := hA.cells 3 _ rfl
      have y2 := hA.cells 4 _ rfl
      have y3 := hA.cells 5 _ rfl
      have y4 := hA.cells 6 _ rfl
      obtain ⟨k, hk⟩ : ∃ k, k = L.length - 1 := ⟨_, rfl⟩
      rw [← hk] at p0
      have hnk : n = k + 1 := by omega
      have HN := Hid.mk hnk
      obtain ⟨hw1, hw2, -⟩ := t_num (i := k) (by have := HQ.out.2.2.2.1; omega)
      subst hnk
      have hk1 : (k : Int) < (k : Int) + 1 := by omega
      have hk0 : (0 : Int) ≤ (k : Int) := by omega
      have HA := Hid.mk qa
      clear hA hAe qa hk hnl hSRw hp hi0
      go_wp2_with fail
      have bX : Below wr.heap.size wr (wr.alloc (.cells (enC A.e).toArray 36)) := (Below.refl _ wr).alloc (Nat.le_refl _) _
      have hlast := heap_alloc_last wr (.cells (enC A.e).toArray 36)
      have bWX : Below W1.heap.size W1 (wr.alloc (.cells (enC A.e).toArray 36)) := chain hb bX (Nat.le_refl _)
      have hQX := HQ.out.1.later bWX
      have hSX := HQ.out.2.1.below bWX
      rw [← HQ.out.2.2.1] at hQX hSX
      have hkX : KeepEn W (wr.alloc (.cells (enC A.e).toArray 36)) := HK.out.1.trans (.below bWX)
      have hRX : (wr.alloc (.cells (enC A.e).toArray 36)).heap[W.heap.size]? = some (.cells (enC e0).toArray 36 (0, 0)) := KeepEn.below bWX _ _ _ HK.out.2.1
      have hsrt := sort_any L _ _ hSX HK.out.2.2.ne HQ.out.2.2.2.1
      obtain ⟨LB, hLB⟩ : ∃ LB, LB = wr.heap.size := ⟨_, rfl⟩
      rw [← hLB] at hlast
      obtain ⟨X, hX⟩ : ∃ X, X = wr.alloc (.cells (enC A.e).toArray 36) := ⟨_, rfl⟩
      rw [← hX] at hlast hQX hSX hkX hRX hsrt
      simp only [enC] at hX
      rw [← hX, ← hLB]
      refine hsrt.mono ?_
      clear hsrt hX hLB bX bWX
      rintro r W2 ⟨rfl, L', hp, hpw, hr2, st2⟩
      have hke2 : KeepEn X W2 := KeepEn.stay st2 (fun k cur fr hk hc => by
        obtain ⟨c, hc2⟩ := row_block hSX.own hk
        rw [hc2] at hc; simp at hc)
      have hQ2 := hQX.sort hp hr2 st2
      have hl2 : L'.length = k + 1 := hp.length_eq.trans HQ.out.2.2.1.symm
      have hR0 : R2t w0 B m bxs c0 c2 c3 (.slice (some ⟨g, 0, none⟩) (k + 1) lc) L' ys' rs W2 0 W2 := ⟨ys', rs, Nat.zero_le _, hQ2, .nil _ _, .refl _, by
        have h1 := HK.out.2.2.perm.length_eq
        have h2 := hp.length_eq
        rw [List.length_append] at h1
        omega⟩
      have H2 := Hid.mk (And.intro hR0 (And.intro hl2 (And.intro hp (And.intro hpw (And.intro (hkX.trans hke2) (And.intro (hke2 _ _ _ hRX) (And.intro (hke2 _ _ _ hlast) hr2)))))))
      clear hke2 hQ2 hl2 hR0 hp hpw hkX hRX hlast hr2 st2 hQX hSX y0 y1 y2 y3 y4 p0
      have H3 := Hid.mk (And.intro HB.out (And.intro hnone.out HA.out))
      obtain ⟨W0, hW0⟩ : ∃ W0, W0 = W.heap.size := ⟨_, rfl⟩
      clear o HN hnone HA
      go_wp2
      go_loopw [52] (fun tv wr => ∃ t : Nat, tv = .int .i64 t ∧ R2t w0 B m bxs c0 c2 c3 (.slice (some ⟨g, 0, none⟩) (k + 1) lc) L' ys' rs W2 t wr) (fun tv _ => k + 1 - (intOf tv).toNat)
      case atStart => exact ⟨0, rfl, H2.out.1⟩
      case round =>
        obtain ⟨t, rfl, hR⟩ := hrel
        by_cases htk : t < k + 1
        · have htL : t < L'.length := Nat.lt_of_lt_of_eq htk H2.out.2.1.symm
          obtain ⟨ys1, rs1, r1, r2, r3, r4, r5⟩ := id hR
          have hsl : SRow wr (.slice (some ⟨g, 0, none⟩) (k + 1) lc) [] → True := fun _ => trivial
          have hrow := r2.row
          have pc : wr.cell? ⟨g, t, none⟩ = some (.pointer (some ⟨L'[t].a, 0, none⟩)) := by
            rw [H2.out.2.1] at hrow
            have := World.ownsRow.cellAt hrow t (by omega)
            rw [this, List.getElem?_map, List.getElem?_eq_getElem htL]; rfl
          have hask := hR.ask htL
          obtain ⟨z, hz⟩ : ∃ z, z = L'[t].a := ⟨_, rfl⟩
          rw [← hz] at pc hask
          have t1 : (t : Int) < (k : Int) + 1 := by
            have := Int.ofNat_lt.2 htk
            simpa using this
          have t0 : (0 : Int) ≤ (t : Int) := Int.natCast_nonneg t
          have hwt : IntKind.i64.wrap ((t : Int) + 1) = (t : Int) + 1 := by
            have h1 := HQ.out.2.2.2.1
            have h2 := HQ.out.2.2.1
            rw [IntKind.wrap_i64]; omega
          clear hR r1 r2 r3 r4 r5 hsl hrow hz htL
          go_wp2_with (go_at_call 34; refine hask.mono ?_; clear hask; rintro r W5 ⟨rfl, hR5⟩)
          exact ⟨⟨t + 1, by rw [Int.natCast_add]; rfl, hR5⟩, by simp only [intOf]; omega⟩
        · have hte : t = k + 1 := by
            obtain ⟨ys1, rs1, r1, -⟩ := id hR
            have := H2.out.2.1
            omega
          have t1 : ¬ (t : Int) < (k : Int) + 1 := by omega
          obtain ⟨ys1, rs1, r1, r2, r3, r4, r5⟩ := hR
          have hLk := H2.out.2.1
          rw [hte, ← hLk, List.drop_length] at r2
          rw [hte, ← hLk, List.take_length] at r3
          obtain ⟨-, -, hp, hpw, hkW, hRX, hlast, -⟩ := H2.out
          have hRr := r4 _ _ _ hRX
          obtain ⟨⟨x0, x1, x2, x3, x4⟩, xf⟩ := en_cells hRr
          obtain ⟨⟨y0, y1, y2, y3, y4⟩, -⟩ := en_cells (r4 _ _ _ hlast)
          simp only [e0] at x0 x1 x2 x3 x4
          have f0 := xf 0
          have f1 := xf 1
          have f2 := xf 2
          have f3 := xf 3
          have f4 := xf 4
          obtain ⟨g1, g2⟩ := take_fin r2.nil (hkW.trans r4) ⟨_, hRr⟩ H3.out.1 A.e
          have fin : TakeO w0 B m bxs c0 c2 c3 ys rs W (.returned (.tuple #[.agg (enC A.e).toArray, .int .i64 0])) (put0 wr W.heap.size A.e) := ⟨g2, L, ys', HK.out.2.2, .inr ⟨H3.out.2.1, A, L', ys1, rs1, H3.out.2.2, rfl, hp, hpw, r3, g1⟩⟩
          replace fin := Hid.mk fin
          clear xf hRr r1 r2 r3 r4 r5 g1 g2 hp hpw hkW hRX hlast H2 H3 HK HQ HH hte htk hLk
          go_wp2
          refine bodyPost_ret (v := .tuple #[.agg (enC A.e).toArray, .int .i64 0]) (by simp [results, Try.results29, go_sem, x0, x1, x2, x3, x4, enC]; try rfl) rfl ?_
          exact fin.out
end Go.Proofs.Ytbkbnhdeleoibaa
