/-
  DERIVED. A merger over feeds: its state, and what asking a feed does to it.
-/
import Derived.Test.YtchikfabfhjkgaaFAsk
import Derived.Test.YtchikfabfhjkgaaMState
set_option linter.unusedVariables false
set_option linter.unusedSimpArgs false
namespace Go.Proofs.Ytchikfabfhjkgaa.Fd
open Go.RowKit
/-- How often a feed was asked: something is left (it may be nothing), or its end was told. -/
def usd (X : List En) : Option (List En) → Nat
  | some l => X.length - l.length
  | none => X.length + 1
/-- A feed of which so much is left. -/
structure SrcAt (w0 : World) (B : Nat) (W : World) (b : Nat × List En) (r : Option (List En)) : Prop where
  fd : FdAt w0 B W b.1 b.2 (usd b.2 r)
  left : ∀ l, r = some l → l.length ≤ b.2.length ∧ l = b.2.drop (b.2.length - l.length)
theorem SrcAt.ex {w0 : World} {B : Nat} {W : World} {b : Nat × List En} {r : Option (List En)} (h : SrcAt w0 B W b r) : ∃ la cap u, W.heap[b.1]? = some (.cells #[.slice la b.2.length cap, .int .i64 0, .bool false, .int .i64 0, .bool false, .int .i64 (u : Nat)] 48 (0, 0)) ∧ u = usd b.2 r := by
  obtain ⟨la, cap, h1, -⟩ := h.fd.ex
  exact ⟨la, cap, _, h1, rfl⟩
theorem SrcAt.lt {w0 : World} {B : Nat} {W : World} {b : Nat × List En} {r : Option (List En)} (h : SrcAt w0 B W b r) : b.1 < W.heap.size := h.fd.lt
theorem SrcAt.hi {w0 : World} {B : Nat} {W : World} {b : Nat × List En} {r : Option (List En)} (h : SrcAt w0 B W b r) : B ≤ b.1 := h.fd.hi
theorem SrcAt.same {w0 : World} {B : Nat} {W W' : World} {b : Nat × List En} {r : Option (List En)} (h : SrcAt w0 B W b r) (e : W'.heap[b.1]? = W.heap[b.1]?) : SrcAt w0 B W' b r := ⟨h.fd.same e, h.left⟩
theorem SrcAt.below {w0 : World} {B : Nat} {W W' : World} {b : Nat × List En} {r : Option (List En)} (h : SrcAt w0 B W b r) (e : Below W.heap.size W W') : SrcAt w0 B W' b r := ⟨h.fd.below e, h.left⟩
theorem SrcAt.apart {w0 : World} {B : Nat} {W : World} {b : Nat × List En} {r : Option (List En)} (h : SrcAt w0 B W b r) {s : St} (hs : StAt W s) : s.a ≠ b.1 := h.fd.apart hs
theorem SrcAt.frm {w0 : World} {B m : Nat} {c0 c2 c3 : Value} {ys : List St} {W W' : World} {b : Nat × List En} {r : Option (List En)} (h : SrcAt w0 B W b r) (k : HM m c0 c2 c3 ys W) (f : FrM m W W') : SrcAt w0 B W' b r := ⟨h.fd.frm k f, h.left⟩
theorem SrcAt.small {w0 : World} {B : Nat} {W : World} {b : Nat × List En} {r : Option (List En)} (h : SrcAt w0 B W b r) : b.2.length < 4611686018427387904 := by
  obtain ⟨la, cap, -, -, h4⟩ := h.fd.ex
  exact h4
theorem usd_cons {X r : List En} {e : En} (h1 : (e :: r).length ≤ X.length) (h2 : e :: r = X.drop (X.length - (e :: r).length)) : X[usd X (some (e :: r))]? = some e ∧ usd X (some (e :: r)) + 1 = usd X (some r) ∧ r.length ≤ X.length ∧ r = X.drop (X.length - r.length) := by
  simp only [usd, List.length_cons] at *
  have hl : X.length - (r.length + 1) < X.length := by omega
  rw [List.drop_eq_getElem_cons hl] at h2
  injection h2 with e1 e2
  have e3 : X.length - (r.length + 1) + 1 = X.length - r.length := by omega
  rw [e3] at e2
  exact ⟨by rw [List.getElem?_eq_getElem hl, ← e1], e3, by omega, e2⟩
/-- The merger's state: ys stand in the heap, P are asked next; rs is what is left at each source; lv is a row of stands that is looked at meanwhile. -/
structure MQ (w0 : World) (B m : Nat) (bxs : List (Nat × List En)) (c0 c2 c3 : Value) (lv : Value) (LL ys P : List St) (rs : List (Option (List En))) (W : World) : Prop where
  below : Below B w0 W
  mB : B ≤ m
  hm : HM m c0 c2 c3 ys W
  rowB : ∀ av k, W.cell? ⟨m, 1, none⟩ = some av → av.ownBlock = some k → B ≤ k
  heap : HeapN ltS ys ys.length
  len : rs.length = bxs.length
  src : ∀ (i : Nat) (b : Nat × List En) (r : Option (List En)), bxs[i]? = some b → rs[i]? = some r → SrcAt w0 B W b r
  inj : ∀ (i j : Nat) (b c : Nat × List En), bxs[i]? = some b → bxs[j]? = some c → b.1 = c.1 → i = j
  st : ∀ y ∈ ys ++ P, B ≤ y.a ∧ (∃ b, bxs[y.num]? = some b ∧ y.f = fdV b.1) ∧ ∃ r, rs[y.num]? = some (some r)
  gvt : ∀ y ∈ ys, y.gv = true
  stP : ∀ y ∈ P, StAt W y
  adr : ((ys ++ P).map St.a).Nodup
  nums : ((ys ++ P).map St.num).Nodup
  up : ∀ y ∈ ys ++ P, ∀ r, rs[y.num]? = some (some r) → y.gv = true → rises (y.e :: r) = true
  ups : ∀ r, some r ∈ rs → rises r = true
  row : W.ownsRow 0 94 1 lv LL.length (LL.map Pp)
  apart : ∀ av k, W.cell? ⟨m, 1, none⟩ = some av → lv.ownBlock = some k → av.ownBlock ≠ some k
  small : bxs.length ≤ 1024
  lvB : ∀ k, lv.ownBlock = some k → B ≤ k
  kp : KeepT 49 w0 W
theorem MQ.later {w0 : World} {B m : Nat} {bxs : List (Nat × List En)} {c0 c2 c3 lv : Value} {LL ys P : List St} {rs : List (Option (List En))} {W W' : World} (h : MQ w0 B m bxs c0 c2 c3 lv LL ys P rs W) (b : Below W.heap.size W W') : MQ w0 B m bxs c0 c2 c3 lv LL ys P rs W' := by
  obtain ⟨av, hm, hr, hl⟩ := h.hm
  have hc : W'.cell? ⟨m, 1, none⟩ = W.cell? ⟨m, 1, none⟩ := b.cell (World.block_lt_of_cell? W _ hm.cell.1)
  have hB : B ≤ W.heap.size := Nat.le_trans h.mB (Nat.le_of_lt (Array.getElem?_eq_some_iff.1 hm).1)
  exact { h with
    below := h.below.trans (b.mono hB)
    hm := h.hm.below b
    rowB := fun av k h1 h2 => h.rowB av k (hc ▸ h1) h2
    src := fun i x r h1 h2 => (h.src i x r h1 h2).below b
    stP := fun y hy => (b.block y.a (Array.getElem?_eq_some_iff.1 (h.stP y hy)).1).trans (h.stP y hy)
    row := row_kept h.row (F := fun _ => False) (.below b) (fun _ _ h => h)
    apart := fun av k h1 h2 => h.apart av k (hc ▸ h1) h2
    kp := h.kp.trans (.below b) }
/-- What asking comes to. -/
def Asked (s : St) (ys ys1 : List St) (rs rs1 : List (Option (List En))) : Prop :=
  (rs[s.num]? = some (some []) ∧ ys1 = ys ∧ rs1 = rs.set s.num none) ∨ ∃ e r, rs[s.num]? = some (some (e :: r)) ∧ ys1.Perm (ys ++ [s.upd e]) ∧ rs1 = rs.set s.num (some r)
theorem MQ.ask {w0 : World} {B m : Nat} {bxs : List (Nat × List En)} {c0 c2 c3 lv : Value} {LL ys P : List St} {s : St} {rs : List (Option (List En))} {W : World} (h : MQ w0 B m bxs c0 c2 c3 lv LL ys (s :: P) rs W) (hy : ys.length + P.length + 1 ≤ 1024) :
    Calls Try.prog 52 #[.pointer (some ⟨m, 0, none⟩), .pointer (some ⟨s.a, 0, none⟩)] W fun r W' => r = .returned (.int .i64 0) ∧ ∃ ys1 rs1, MQ w0 B m bxs c0 c2 c3 lv LL ys1 P rs1 W' ∧ Asked s ys ys1 rs rs1 ∧ KeepEn W W' ∧ KeepT 46 W W' := by
  have hsm : s ∈ ys ++ s :: P := by simp
  obtain ⟨hsB, ⟨b, hb, hf⟩, r, hr⟩ := h.st s hsm
  have hlt : s.num < rs.length := by rw [h.len]; exact (List.getElem?_eq_some_iff.1 hb).1
  have hx := h.src s.num b (some r) hb hr
  have hxs := hx.small
  have hus : usd b.2 (some r) < 4611686018427387904 := by simp only [usd]; omega
  have hsP := h.stP s (by simp)
  have sub : ∀ y, y ∈ ys ++ P → y ∈ ys ++ s :: P := fun y hy => by
    rcases List.mem_append.1 hy with k | k
    · exact List.mem_append_left _ k
    · exact List.mem_append_right _ (List.mem_cons_of_mem _ k)
  have hsubl : (ys ++ P).Sublist (ys ++ s :: P) := (List.Sublist.refl ys).append (List.sublist_cons_self s P)
  have adr' : ((ys ++ P).map St.a).Nodup := h.adr.sublist (hsubl.map _)
  have num' : ((ys ++ P).map St.num).Nodup := h.nums.sublist (hsubl.map _)
  have hsn : s ∉ ys ++ P := fun hin => by
    have h1 := h.nums
    rw [List.map_append, List.map_cons, List.nodup_append] at h1
    obtain ⟨-, h2, h3⟩ := h1
    rw [List.nodup_cons] at h2
    rcases List.mem_append.1 hin with k | k
    · exact h3 _ (List.mem_map_of_mem k) _ (by simp) rfl
    · exact h2.1 (List.mem_map_of_mem k)
  have hna : ∀ y ∈ ys ++ P, y.a ≠ s.a := fun y hy e => hsn (nodup_count h.adr (sub y hy) hsm e ▸ hy)
  have hnn : ∀ y ∈ ys ++ P, y.num ≠ s.num := fun y hy e => hsn (nodup_count h.nums (sub y hy) hsm e ▸ hy)
  cases r with
  | nil =>
    have hX : b.2[usd b.2 (some [])]? = none := by simp [usd]
    refine (ask_nil m b.1 s b.2 _ W h.below hsP hf hx.fd hus hX).mono ?_
    rintro r W' ⟨rfl, k1, st⟩
    obtain ⟨la', lc', u', hbx', -⟩ := hx.ex
    obtain ⟨av, hmW, hrW, hlW⟩ := h.hm
    have hmlt : m < W.heap.size := (Array.getElem?_eq_some_iff.1 hmW).1
    have hm1 := hm_box h.hm hx.fd st
    have hmb : m ≠ b.1 := fun e' => by
      have h1 := hmW
      unfold Mb at h1
      rw [e', hbx'] at h1; simp at h1
    have ec : W'.cell? ⟨m, 1, none⟩ = W.cell? ⟨m, 1, none⟩ := World.cell?_of_block (st.block m hmlt hmb)
    have hty : ∀ (t : TypeId), t ≠ 48 → KeepT t W W' := fun t ht => KeepT.stay st (fun k cur fr hk hc => by
      rw [hk, hbx'] at hc; simp at hc; exact ht hc.2.1.symm)
    have hus2 : usd b.2 (some []) + 1 = usd b.2 none := by simp [usd]
    have h2 : MQ w0 B m bxs c0 c2 c3 lv LL ys P (rs.set s.num none) W' := {
      below := h.below.trans (st.toBelow (fun k hk e' => by have := hx.hi; omega) (Nat.le_trans h.mB (Nat.le_of_lt hmlt)))
      mB := h.mB
      hm := hm1
      rowB := fun u k h1 h2 => h.rowB u k (ec ▸ h1) h2
      heap := h.heap
      len := by rw [List.length_set]; exact h.len
      src := fun i x r1 h1 h2 => by
        by_cases hi : i = s.num
        · subst hi
          rw [hb] at h1; cases h1
          rw [List.getElem?_set_self hlt] at h2; cases h2
          exact ⟨hus2 ▸ k1, fun l hl => by cases hl⟩
        · rw [List.getElem?_set_ne (fun e' => hi e'.symm)] at h2
          have hxi := h.src i x r1 h1 h2
          exact hxi.same (st.block x.1 hxi.lt (fun e' => hi (h.inj i s.num x b h1 hb e')))
      inj := h.inj
      st := fun y hy => by
        obtain ⟨y1, y2, r1, y3⟩ := h.st y (sub y hy)
        exact ⟨y1, y2, r1, by rw [List.getElem?_set_ne (fun e' => hnn y hy e'.symm)]; exact y3⟩
      gvt := h.gvt
      stP := fun y hy => (st.block y.a (Array.getElem?_eq_some_iff.1 (h.stP y (List.mem_cons_of_mem _ hy))).1 (hx.apart (h.stP y (List.mem_cons_of_mem _ hy)))).trans (h.stP y (List.mem_cons_of_mem _ hy))
      adr := adr'
      nums := num'
      up := fun y hy r1 hr1 => by
        rw [List.getElem?_set_ne (fun e' => hnn y hy e'.symm)] at hr1
        exact h.up y (sub y hy) r1 hr1
      ups := fun r1 hr1 => by
        rcases List.mem_or_eq_of_mem_set hr1 with k | k
        · exact h.ups r1 k
        · cases k
      row := row_kept h.row st (fun k hk e' => by
        obtain ⟨cur, hc⟩ := row_block h.row hk
        rw [e', hbx'] at hc; simp at hc)
      apart := fun u k h1 h2 => h.apart u k (ec ▸ h1) h2
      small := h.small
      lvB := h.lvB
      kp := h.kp.trans (hty _ (by decide)) }
    exact ⟨rfl, ys, _, h2, .inl ⟨hr, rfl, rfl⟩, hty _ (by decide), hty _ (by decide)⟩
  | cons e r =>
    have hup := h.up s hsm (e :: r) hr
    have hlt1 : s.gv = true → cpE s.e e < 0 := fun hg => (rises_tail (hup hg)).1
    have hlt2 : rises (e :: r) = true := h.ups _ (List.mem_of_getElem? hr)
    obtain ⟨hu1, hu2, hu3, hu4⟩ := usd_cons (hx.left _ rfl).1 (hx.left _ rfl).2
    refine (ask_cons m b.1 c0 c2 c3 s ys e b.2 _ W h.below hsP hf hx.fd hus hu1 h.hm (by omega) (fun y hy => hna y (List.mem_append_left _ hy)) hlt1).mono ?_
    rintro r' W' ⟨rfl, k1, k2, W2, k3, k4, k5⟩
    have hpm := up_perm ltS (ys ++ [s.upd e]) ys.length (by simp)
    have hup1 := up_heap ordS (ys ++ [s.upd e]) ys.length (by simp) (up_UpTo h.heap (s.upd e))
    obtain ⟨ys1, hys1⟩ : ∃ ys1, ys1 = upL ltS (ys ++ [s.upd e]) ys.length := ⟨_, rfl⟩
    rw [← hys1] at k2 hpm hup1
    obtain ⟨la', lc', u', hbx', -⟩ := hx.ex
    have hks : KeepT 46 W W' := (KeepT.stay k3 (fun k cur fr hk hc => by
      rcases hk with e' | e'
      · rw [e', hbx'] at hc; simp at hc
      · have h1 := hsP
        unfold StAt at h1
        rw [e', h1] at hc; simp at hc)).trans (.frm k4 k5 (by decide) (by decide))
    have hkp : KeepT 49 W W' := (KeepT.stay k3 (fun k cur fr hk hc => by
      rcases hk with e' | e'
      · rw [e', hbx'] at hc; simp at hc
      · have h1 := hsP
        unfold StAt at h1
        rw [e', h1] at hc; simp at hc)).trans (.frm k4 k5 (by decide) (by decide))
    have hke : KeepEn W W' := (KeepEn.stay k3 (fun k cur fr hk hc => by
      rcases hk with e' | e'
      · rw [e', hbx'] at hc; simp at hc
      · have h1 := hsP
        unfold StAt at h1
        rw [e', h1] at hc; simp at hc)).trans (.frm k4 k5)
    refine ⟨rfl, ys1, rs.set s.num (some r), ?_, .inr ⟨e, r, hr, hpm, rfl⟩, hke, hks⟩
    obtain ⟨av, hmW, hrW, -⟩ := h.hm
    obtain ⟨av2, hm2, hr2, hl2⟩ := id k4
    have hmlt : m < W.heap.size := (Array.getElem?_eq_some_iff.1 hmW).1
    obtain ⟨la, lc, u, hbx, -⟩ := hx.ex
    have hmb : m ≠ b.1 := fun e' => by
      have h1 := hmW
      unfold Mb at h1
      rw [e', hbx] at h1; simp at h1
    have hms : m ≠ s.a := fun e' => hmW.st hsP e'.symm
    have cW2 : W2.heap[m]? = W.heap[m]? := k3.block m hmlt (fun e' => e'.elim hmb hms)
    have eav : av2 = av := by
      have h1 := hm2
      have h2 := hmW
      unfold Mb at h1 h2
      rw [cW2, h2] at h1
      simp at h1
      exact h1.symm
    subst eav
    have ob : ∀ k, av2.ownBlock = some k → B ≤ k := fun k hk => h.rowB av2 k hmW.cell.1 hk
    have bW2 : Below B W W2 := k3.toBelow (fun k hk e' => by
      rcases e' with e' | e'
      · have := hx.hi; omega
      · omega) (Nat.le_trans h.mB (Nat.le_of_lt hmlt))
    have bW' : Below B W2 W' := ⟨k5.os, k5.tape, k5.output, k5.size, fun k hk => k5.at' hm2 k (Nat.lt_of_lt_of_le hk (Nat.le_trans h.mB (Nat.le_trans (Nat.le_of_lt hmlt) k3.size))) (fun e' => by have := h.mB; omega) (fun e' => by have := ob k e'; omega)⟩
    have stW2 : ∀ y, StAt W y → y.a ≠ s.a → StAt W2 y := fun y hy hne => (k3.block y.a (Array.getElem?_eq_some_iff.1 hy).1 (fun e' => e'.elim (fun e' => hx.apart hy e') hne)).trans hy
    have hpm2 : (ys1 ++ P).Perm (ys ++ s.upd e :: P) := by
      have := hpm.append_right P
      rw [List.append_assoc] at this
      exact this
    have memx : ∀ y, y ∈ ys1 ++ P → y = s.upd e ∨ y ∈ ys ++ P := fun y hy => by
      have h1 := hpm2.mem_iff.1 hy
      rcases List.mem_append.1 h1 with k | k
      · exact .inr (List.mem_append_left _ k)
      · rcases List.mem_cons.1 k with k | k
        · exact .inl k
        · exact .inr (List.mem_append_right _ k)
    have rowW2 : W2.ownsRow 0 94 1 lv LL.length (LL.map Pp) := row_kept h.row k3 (fun k hk e' => by
      obtain ⟨cur, hc⟩ := row_block h.row hk
      rcases e' with e' | e'
      · rw [e', hbx] at hc; simp at hc
      · unfold StAt at hsP
        rw [e', hsP] at hc; simp at hc)
    have locx : ∀ u k, W'.cell? ⟨m, 1, none⟩ = some u → u.ownBlock = some k → av2.ownBlock = some k ∨ W2.heap.size ≤ k := fun u k h1 h2 => by
      rcases k5.loc k u h1 h2 with ⟨u', h3, h4⟩ | h3
      · rw [hm2.cell.1] at h3; cases h3; exact .inl h4
      · exact .inr h3
    exact {
      below := (h.below.trans bW2).trans bW'
      mB := h.mB
      hm := k2
      rowB := fun u k h1 h2 => by
        rcases locx u k h1 h2 with h3 | h3
        · exact ob k h3
        · exact Nat.le_trans h.mB (Nat.le_trans (Nat.le_of_lt hmlt) (Nat.le_trans k3.size h3))
      heap := by
        have e1 : ys1.length = (ys ++ [s.upd e]).length := hpm.length_eq
        rw [e1]; exact hup1
      len := by rw [List.length_set]; exact h.len
      src := fun i x r1 h1 h2 => by
        by_cases hi : i = s.num
        · subst hi
          rw [hb] at h1; cases h1
          rw [List.getElem?_set_self hlt] at h2; cases h2
          exact ⟨hu2 ▸ k1, fun l hl => by cases hl; exact ⟨hu3, hu4⟩⟩
        · rw [List.getElem?_set_ne (fun e' => hi e'.symm)] at h2
          have hxi := h.src i x r1 h1 h2
          have hxb : x.1 ≠ b.1 := fun e' => hi (h.inj i s.num x b h1 hb e')
          have hx2 : SrcAt w0 B W2 x r1 := hxi.same (k3.block x.1 hxi.lt (fun e' => e'.elim hxb (fun e' => hxi.apart hsP e'.symm)))
          exact hx2.frm k4 k5
      inj := h.inj
      st := fun y hy => by
        rcases memx y hy with e1 | hy
        · subst e1; exact ⟨hsB, ⟨b, hb, hf⟩, r, by rw [show (s.upd e).num = s.num from rfl, List.getElem?_set_self hlt]⟩
        · obtain ⟨y1, y2, r1, y3⟩ := h.st y (sub y hy)
          exact ⟨y1, y2, r1, by rw [List.getElem?_set_ne (fun e' => hnn y hy e'.symm)]; exact y3⟩
      stP := fun y hy => (stW2 y (h.stP y (List.mem_cons_of_mem _ hy)) (hna y (List.mem_append_right _ hy))).frm hm2 hr2 k5
      adr := by
        have e1 : ((ys1 ++ P).map St.a).Perm ((ys ++ s :: P).map St.a) := by
          have := hpm2.map St.a
          simpa [St.upd] using this
        exact e1.nodup_iff.2 h.adr
      nums := by
        have e1 : ((ys1 ++ P).map St.num).Perm ((ys ++ s :: P).map St.num) := by
          have := hpm2.map St.num
          simpa [St.upd] using this
        exact e1.nodup_iff.2 h.nums
      up := fun y hy r1 hr1 => by
        rcases memx y hy with e1 | hy
        · subst e1
          rw [show (s.upd e).num = s.num from rfl, List.getElem?_set_self hlt] at hr1; cases hr1
          exact fun _ => hlt2
        · rw [List.getElem?_set_ne (fun e' => hnn y hy e'.symm)] at hr1
          exact h.up y (sub y hy) r1 hr1
      gvt := fun y hy => by
        rcases List.mem_append.1 (hpm.mem_iff.1 hy) with k | k
        · exact h.gvt y k
        · simp at k; subst k; rfl
      ups := fun r1 hr1 => by
        rcases List.mem_or_eq_of_mem_set hr1 with k | k
        · exact h.ups r1 k
        · cases k
          cases r with
          | nil => rfl
          | cons x t => exact (rises_tail hlt2).2
      row := row_frm rowW2 hm2 k5 (fun k hk => h.apart av2 k hmW.cell.1 hk)
      apart := fun u k h1 h2 h3 => by
        rcases locx u k h1 h3 with h4 | h4
        · exact h.apart av2 k hmW.cell.1 h2 h4
        · have := row_lt h.row h2
          have := k3.size
          omega
      small := h.small
      lvB := h.lvB
      kp := h.kp.trans hkp }
end Go.Proofs.Ytchikfabfhjkgaa.Fd
