/-
  DERIVED. A merger over lists: its state, and what asking a source does to it.
-/
import Derived.Test.YtchikfabfhjkgaaMSortF
set_option linter.unusedVariables false
set_option linter.unusedSimpArgs false
namespace Go.Proofs.Ytchikfabfhjkgaa
open Go.RowKit
/-- The merger's state: ys stand in the heap, P are asked next; rs is what is left at each source; lv is a row of stands that is looked at meanwhile. -/
structure MQ (w0 : World) (B m : Nat) (bxs : List Nat) (c0 c2 c3 : Value) (lv : Value) (LL ys P : List St) (rs : List (List En)) (W : World) : Prop where
  below : Below B w0 W
  mB : B ≤ m
  hm : HM m c0 c2 c3 ys W
  rowB : ∀ av k, W.cell? ⟨m, 1, none⟩ = some av → av.ownBlock = some k → B ≤ k
  heap : HeapN ltS ys ys.length
  len : rs.length = bxs.length
  src : ∀ (i : Nat) (b : Nat) (r : List En), bxs[i]? = some b → rs[i]? = some r → SrcAt w0 B W b r
  inj : ∀ (i j b : Nat), bxs[i]? = some b → bxs[j]? = some b → i = j
  st : ∀ y ∈ ys ++ P, B ≤ y.a ∧ ∃ b, bxs[y.num]? = some b ∧ y.f = srcV b
  gvt : ∀ y ∈ ys, y.gv = true
  stP : ∀ y ∈ P, StAt W y
  adr : ((ys ++ P).map St.a).Nodup
  nums : ((ys ++ P).map St.num).Nodup
  up : ∀ y ∈ ys ++ P, ∀ r, rs[y.num]? = some r → y.gv = true → rises (y.e :: r) = true
  ups : ∀ r ∈ rs, rises r = true
  row : W.ownsRow 0 94 1 lv LL.length (LL.map Pp)
  apart : ∀ av k, W.cell? ⟨m, 1, none⟩ = some av → lv.ownBlock = some k → av.ownBlock ≠ some k
  small : bxs.length ≤ 1024
  lvB : ∀ k, lv.ownBlock = some k → B ≤ k
theorem MQ.later {w0 : World} {B m : Nat} {bxs : List Nat} {c0 c2 c3 lv : Value} {LL ys P : List St} {rs : List (List En)} {W W' : World} (h : MQ w0 B m bxs c0 c2 c3 lv LL ys P rs W) (b : Below W.heap.size W W') : MQ w0 B m bxs c0 c2 c3 lv LL ys P rs W' := by
  obtain ⟨av, hm, hr, hl⟩ := h.hm
  have hc : W'.cell? ⟨m, 1, none⟩ = W.cell? ⟨m, 1, none⟩ := b.cell (World.block_lt_of_cell? W _ hm.cell.1)
  have hB : B ≤ W.heap.size := Nat.le_trans h.mB (Nat.le_of_lt (Array.getElem?_eq_some_iff.1 hm).1)
  exact { h with
    below := h.below.trans (b.mono hB)
    hm := h.hm.below b
    rowB := fun av k h1 h2 => h.rowB av k (hc ▸ h1) h2
    src := fun i x r h1 h2 => (h.src i x r h1 h2).below b
    stP := fun y hy => (b.block y.a (Array.getElem?_eq_some_iff.1 (h.stP y hy)).1).trans (h.stP y hy)
    row := row_kept h.row (F := fun _ => False) (.below b) (fun _ _ h => h)
    apart := fun av k h1 h2 => h.apart av k (hc ▸ h1) h2 }
theorem rises_tail {a b : En} {r : List En} (h : rises (a :: b :: r) = true) : cpE a b < 0 ∧ rises (b :: r) = true := by
  rw [rises, Bool.and_eq_true, decide_eq_true_eq] at h; exact h
theorem nodup_count {α β : Type} {f : α → β} {l : List α} (h : (l.map f).Nodup) {x y : α} (hx : x ∈ l) (hy : y ∈ l) (e : f x = f y) : x = y := by
  induction l with
  | nil => simp at hx
  | cons a l ih =>
    rw [List.map_cons, List.nodup_cons] at h
    rcases List.mem_cons.1 hx with e1 | hx
    · rcases List.mem_cons.1 hy with e2 | hy
      · rw [e1, e2]
      · rw [e1] at e
        exact absurd (List.mem_map.2 ⟨y, hy, e.symm⟩) h.1
    · rcases List.mem_cons.1 hy with e2 | hy
      · rw [e2] at e
        exact absurd (List.mem_map.2 ⟨x, hx, e⟩) h.1
      · exact ih h.2 hx hy
theorem up_UpTo {ys : List St} (h : HeapN ltS ys ys.length) (x : St) : UpTo ltS (ys ++ [x]) ys.length := by
  have hat : ∀ a b, a < ys.length → b < ys.length → ltAt ltS (ys ++ [x]) a b = ltAt ltS ys a b := fun a b ha hb => by
    unfold ltAt; rw [List.getElem?_append_left ha, List.getElem?_append_left hb]
  refine ⟨fun j hp hj hne => ?_, fun j hp hj hk he => ?_⟩
  · have hj' : j < ys.length := by simp at hj; omega
    rw [hat j _ hj' (by omega)]
    exact h j hp hj'
  · simp at hj; omega
theorem row_frm {W W' : World} {v : Value} {n : Nat} {xs : List Value} {m : Nat} {c0 av c2 c3 : Value} (h : W.ownsRow 0 94 1 v n xs) (hm : Mb W m c0 av c2 c3) (f : FrM m W W') (ha : ∀ k, v.ownBlock = some k → av.ownBlock ≠ some k) : W'.ownsRow 0 94 1 v n xs := by
  have ho := h
  rcases h with ⟨h1, h2 | ⟨g, cap, cur, h2, h3, h4, h5⟩⟩
  · exact ⟨h1, .inl h2⟩
  · have hg : v.ownBlock = some g := by rw [h2]; rfl
    exact ⟨h1, .inr ⟨g, cap, cur, h2, h3, (f.at' hm g (Array.getElem?_eq_some_iff.1 h4).1 (hm.apart ho hg) (ha g hg)).trans h4, h5⟩⟩
/-- Blocks of a type stay as they are. -/
def KeepT (t : TypeId) (W W' : World) : Prop := ∀ (k : Nat) (cur : Array Value) (fr : Nat × Nat), W.heap[k]? = some (.cells cur t fr) → W'.heap[k]? = some (.cells cur t fr)
theorem KeepT.refl (t : TypeId) (W : World) : KeepT t W W := fun _ _ _ h => h
theorem KeepT.trans {t : TypeId} {A B C : World} (h : KeepT t A B) (k : KeepT t B C) : KeepT t A C := fun i c f hi => k i c f (h i c f hi)
theorem KeepT.below {t : TypeId} {W W' : World} (b : Below W.heap.size W W') : KeepT t W W' := fun k c f h => (b.block k (Array.getElem?_eq_some_iff.1 h).1).trans h
theorem KeepT.stay {t : TypeId} {F : Nat → Prop} {W W' : World} (s : Stay F W W') (hF : ∀ (k : Nat) (cur : Array Value) (fr : Nat × Nat), F k → W.heap[k]? ≠ some (.cells cur t fr)) : KeepT t W W' := fun k c f h => (s.block k (Array.getElem?_eq_some_iff.1 h).1 (fun hk => hF k c f hk h)).trans h
theorem KeepT.frm {t : TypeId} {m : Nat} {c0 c2 c3 : Value} {ys : List St} {W W' : World} (h : HM m c0 c2 c3 ys W) (f : FrM m W W') (h1 : t ≠ 81) (h2 : t ≠ 94) : KeepT t W W' := fun k c fr hk => by
  obtain ⟨av, hm, hr, -⟩ := h
  refine (f.at' hm k (Array.getElem?_eq_some_iff.1 hk).1 (fun e => ?_) (fun e => ?_)).trans hk
  · unfold Mb at hm
    rw [← e, hk] at hm; simp at hm; exact h1 hm.2.1
  · obtain ⟨cur, hc⟩ := row_block hr.own e
    rw [hk] at hc; simp at hc; exact h2 hc.2.1
/-- Rows and variables of entries stay as they are. -/
def KeepEn (W W' : World) : Prop := KeepT 23 W W'
theorem KeepEn.refl (W : World) : KeepEn W W := fun _ _ _ h => h
theorem KeepEn.trans {A B C : World} (h : KeepEn A B) (k : KeepEn B C) : KeepEn A C := fun i c f hi => k i c f (h i c f hi)
theorem KeepEn.below {W W' : World} (b : Below W.heap.size W W') : KeepEn W W' := KeepT.below b
theorem KeepEn.stay {F : Nat → Prop} {W W' : World} (s : Stay F W W') (hF : ∀ (k : Nat) (cur : Array Value) (fr : Nat × Nat), F k → W.heap[k]? ≠ some (.cells cur 23 fr)) : KeepEn W W' := KeepT.stay s hF
theorem KeepEn.frm {m : Nat} {c0 c2 c3 : Value} {ys : List St} {W W' : World} (h : HM m c0 c2 c3 ys W) (f : FrM m W W') : KeepEn W W' := KeepT.frm h f (by decide) (by decide)
/-- What asking comes to. -/
def Asked (s : St) (ys ys1 : List St) (rs rs1 : List (List En)) : Prop :=
  (rs[s.num]? = some [] ∧ ys1 = ys ∧ rs1 = rs) ∨ ∃ e r, rs[s.num]? = some (e :: r) ∧ ys1.Perm (ys ++ [s.upd e]) ∧ rs1 = rs.set s.num r
theorem MQ.ask {w0 : World} {B m : Nat} {bxs : List Nat} {c0 c2 c3 lv : Value} {LL ys P : List St} {s : St} {rs : List (List En)} {W : World} (h : MQ w0 B m bxs c0 c2 c3 lv LL ys (s :: P) rs W) (hy : ys.length + P.length + 1 ≤ 1024) :
    Calls Try.prog 52 #[.pointer (some ⟨m, 0, none⟩), .pointer (some ⟨s.a, 0, none⟩)] W fun r W' => r = .returned (.int .i64 0) ∧ ∃ ys1 rs1, MQ w0 B m bxs c0 c2 c3 lv LL ys1 P rs1 W' ∧ Asked s ys ys1 rs rs1 ∧ KeepEn W W' ∧ KeepT 46 W W' := by
  have hsm : s ∈ ys ++ s :: P := by simp
  obtain ⟨hsB, b, hb, hf⟩ := h.st s hsm
  have hlt : s.num < rs.length := by rw [h.len]; exact (List.getElem?_eq_some_iff.1 hb).1
  obtain ⟨r, hr⟩ : ∃ r, rs[s.num]? = some r := ⟨_, List.getElem?_eq_getElem hlt⟩
  have hx := h.src s.num b r hb hr
  have hsP := h.stP s (by simp)
  have sub : ∀ y, y ∈ ys ++ P → y ∈ ys ++ s :: P := fun y hy => by
    rcases List.mem_append.1 hy with k | k
    · exact List.mem_append_left _ k
    · exact List.mem_append_right _ (List.mem_cons_of_mem _ k)
  have hsubl : (ys ++ P).Sublist (ys ++ s :: P) := (List.Sublist.refl ys).append (List.sublist_cons_self s P)
  have adr' : ((ys ++ P).map St.a).Nodup := h.adr.sublist (hsubl.map _)
  have num' : ((ys ++ P).map St.num).Nodup := h.nums.sublist (hsubl.map _)
  have hsn : s ∉ ys ++ P := fun hin => by
    have h1 := h.nums
    rw [List.map_append, List.map_cons, List.nodup_append] at h1
    obtain ⟨-, h2, h3⟩ := h1
    rw [List.nodup_cons] at h2
    rcases List.mem_append.1 hin with k | k
    · exact h3 _ (List.mem_map_of_mem k) _ (by simp) rfl
    · exact h2.1 (List.mem_map_of_mem k)
  have hna : ∀ y ∈ ys ++ P, y.a ≠ s.a := fun y hy e => hsn (nodup_count h.adr (sub y hy) hsm e ▸ hy)
  have hnn : ∀ y ∈ ys ++ P, y.num ≠ s.num := fun y hy e => hsn (nodup_count h.nums (sub y hy) hsm e ▸ hy)
  cases r with
  | nil =>
    refine (ask_nil m b s W hsP hf hx).mono ?_
    rintro r W' ⟨rfl, bb⟩
    have h' := h.later bb
    exact ⟨rfl, ys, rs, { h' with
      st := fun y hy => h'.st y (sub y hy)
      stP := fun y hy => h'.stP y (List.mem_cons_of_mem _ hy)
      adr := adr'
      nums := num'
      up := fun y hy => h'.up y (sub y hy) }, .inl ⟨hr, rfl, rfl⟩, .below bb, .below bb⟩
  | cons e r =>
    have hup := h.up s hsm (e :: r) hr
    have hlt1 : s.gv = true → cpE s.e e < 0 := fun hg => (rises_tail (hup hg)).1
    have hlt2 : rises (e :: r) = true := h.ups _ (List.mem_of_getElem? hr)
    refine (ask_cons m b c0 c2 c3 s ys e r W h.below hsP hf hx h.hm (by omega) (fun y hy => hna y (List.mem_append_left _ hy)) hlt1).mono ?_
    rintro r' W' ⟨rfl, k1, k2, W2, k3, k4, k5⟩
    have hpm := up_perm ltS (ys ++ [s.upd e]) ys.length (by simp)
    have hup1 := up_heap ordS (ys ++ [s.upd e]) ys.length (by simp) (up_UpTo h.heap (s.upd e))
    obtain ⟨ys1, hys1⟩ : ∃ ys1, ys1 = upL ltS (ys ++ [s.upd e]) ys.length := ⟨_, rfl⟩
    rw [← hys1] at k2 hpm hup1
    obtain ⟨la', lc', hbx', -⟩ := hx.ex
    have hks : KeepT 46 W W' := (KeepT.stay k3 (fun k cur fr hk hc => by
      rcases hk with e' | e'
      · rw [e', hbx'] at hc; simp at hc
      · have h1 := hsP
        unfold StAt at h1
        rw [e', h1] at hc; simp at hc)).trans (.frm k4 k5 (by decide) (by decide))
    have hke : KeepEn W W' := (KeepEn.stay k3 (fun k cur fr hk hc => by
      rcases hk with e' | e'
      · rw [e', hbx'] at hc; simp at hc
      · have h1 := hsP
        unfold StAt at h1
        rw [e', h1] at hc; simp at hc)).trans (.frm k4 k5)
    refine ⟨rfl, ys1, rs.set s.num r, ?_, .inr ⟨e, r, hr, hpm, rfl⟩, hke, hks⟩
    obtain ⟨av, hmW, hrW, -⟩ := h.hm
    obtain ⟨av2, hm2, hr2, hl2⟩ := id k4
    have hmlt : m < W.heap.size := (Array.getElem?_eq_some_iff.1 hmW).1
    obtain ⟨la, lc, hbx, -⟩ := hx.ex
    have hmb : m ≠ b := fun e' => by
      have h1 := hmW
      unfold Mb at h1
      rw [e', hbx] at h1; simp at h1
    have hms : m ≠ s.a := fun e' => hmW.st hsP e'.symm
    have cW2 : W2.heap[m]? = W.heap[m]? := k3.block m hmlt (fun e' => e'.elim hmb hms)
    have eav : av2 = av := by
      have h1 := hm2
      have h2 := hmW
      unfold Mb at h1 h2
      rw [cW2, h2] at h1
      simp at h1
      exact h1.symm
    subst eav
    have ob : ∀ k, av2.ownBlock = some k → B ≤ k := fun k hk => h.rowB av2 k hmW.cell.1 hk
    have bW2 : Below B W W2 := k3.toBelow (fun k hk e' => by
      rcases e' with e' | e'
      · have := hx.hi; omega
      · omega) (Nat.le_trans h.mB (Nat.le_of_lt hmlt))
    have bW' : Below B W2 W' := ⟨k5.os, k5.tape, k5.output, k5.size, fun k hk => k5.at' hm2 k (Nat.lt_of_lt_of_le hk (Nat.le_trans h.mB (Nat.le_trans (Nat.le_of_lt hmlt) k3.size))) (fun e' => by have := h.mB; omega) (fun e' => by have := ob k e'; omega)⟩
    have stW2 : ∀ y, StAt W y → y.a ≠ s.a → StAt W2 y := fun y hy hne => (k3.block y.a (Array.getElem?_eq_some_iff.1 hy).1 (fun e' => e'.elim (fun e' => hx.apart hy e') hne)).trans hy
    have hpm2 : (ys1 ++ P).Perm (ys ++ s.upd e :: P) := by
      have := hpm.append_right P
      rw [List.append_assoc] at this
      exact this
    have memx : ∀ y, y ∈ ys1 ++ P → y = s.upd e ∨ y ∈ ys ++ P := fun y hy => by
      have h1 := hpm2.mem_iff.1 hy
      rcases List.mem_append.1 h1 with k | k
      · exact .inr (List.mem_append_left _ k)
      · rcases List.mem_cons.1 k with k | k
        · exact .inl k
        · exact .inr (List.mem_append_right _ k)
    have rowW2 : W2.ownsRow 0 94 1 lv LL.length (LL.map Pp) := row_kept h.row k3 (fun k hk e' => by
      obtain ⟨cur, hc⟩ := row_block h.row hk
      rcases e' with e' | e'
      · rw [e', hbx] at hc; simp at hc
      · unfold StAt at hsP
        rw [e', hsP] at hc; simp at hc)
    have locx : ∀ u k, W'.cell? ⟨m, 1, none⟩ = some u → u.ownBlock = some k → av2.ownBlock = some k ∨ W2.heap.size ≤ k := fun u k h1 h2 => by
      rcases k5.loc k u h1 h2 with ⟨u', h3, h4⟩ | h3
      · rw [hm2.cell.1] at h3; cases h3; exact .inl h4
      · exact .inr h3
    exact {
      below := (h.below.trans bW2).trans bW'
      mB := h.mB
      hm := k2
      rowB := fun u k h1 h2 => by
        rcases locx u k h1 h2 with h3 | h3
        · exact ob k h3
        · exact Nat.le_trans h.mB (Nat.le_trans (Nat.le_of_lt hmlt) (Nat.le_trans k3.size h3))
      heap := by
        have e1 : ys1.length = (ys ++ [s.upd e]).length := hpm.length_eq
        rw [e1]; exact hup1
      len := by rw [List.length_set]; exact h.len
      src := fun i x r1 h1 h2 => by
        by_cases hi : i = s.num
        · subst hi
          rw [hb] at h1; cases h1
          rw [List.getElem?_set_self hlt] at h2; cases h2
          exact k1
        · rw [List.getElem?_set_ne (fun e' => hi e'.symm)] at h2
          have hxi := h.src i x r1 h1 h2
          have hxb : x ≠ b := fun e' => hi (h.inj i s.num b (e' ▸ h1) hb)
          have hx2 : SrcAt w0 B W2 x r1 := hxi.same (k3.block x hxi.lt (fun e' => e'.elim hxb (fun e' => hxi.apart hsP e'.symm)))
          exact hx2.frm k4 k5
      inj := h.inj
      st := fun y hy => by
        rcases memx y hy with e1 | hy
        · subst e1; exact ⟨hsB, b, hb, hf⟩
        · exact h.st y (sub y hy)
      stP := fun y hy => (stW2 y (h.stP y (List.mem_cons_of_mem _ hy)) (hna y (List.mem_append_right _ hy))).frm hm2 hr2 k5
      adr := by
        have e1 : ((ys1 ++ P).map St.a).Perm ((ys ++ s :: P).map St.a) := by
          have := hpm2.map St.a
          simpa [St.upd] using this
        exact e1.nodup_iff.2 h.adr
      nums := by
        have e1 : ((ys1 ++ P).map St.num).Perm ((ys ++ s :: P).map St.num) := by
          have := hpm2.map St.num
          simpa [St.upd] using this
        exact e1.nodup_iff.2 h.nums
      up := fun y hy r1 hr1 => by
        rcases memx y hy with e1 | hy
        · subst e1
          rw [show (s.upd e).num = s.num from rfl, List.getElem?_set_self hlt] at hr1; cases hr1
          exact fun _ => hlt2
        · rw [List.getElem?_set_ne (fun e' => hnn y hy e'.symm)] at hr1
          exact h.up y (sub y hy) r1 hr1
      gvt := fun y hy => by
        rcases List.mem_append.1 (hpm.mem_iff.1 hy) with k | k
        · exact h.gvt y k
        · simp at k; subst k; rfl
      ups := fun r1 hr1 => by
        rcases List.mem_or_eq_of_mem_set hr1 with k | k
        · exact h.ups r1 k
        · subst k
          cases r1 with
          | nil => rfl
          | cons x t => exact (rises_tail hlt2).2
      row := row_frm rowW2 hm2 k5 (fun k hk => h.apart av2 k hmW.cell.1 hk)
      apart := fun u k h1 h2 h3 => by
        rcases locx u k h1 h3 with h4 | h4
        · exact h.apart av2 k hmW.cell.1 h2 h4
        · have := row_lt h.row h2
          have := k3.size
          omega
      small := h.small
      lvB := h.lvB }
end Go.Proofs.Ytchikfabfhjkgaa
