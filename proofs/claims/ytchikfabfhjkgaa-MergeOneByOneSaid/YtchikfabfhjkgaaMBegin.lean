/-
  DERIVED. Each source is asked once.
-/
import Derived.Test.YtchikfabfhjkgaaMTake
import Derived.Laws.EntriesVeiled
set_option linter.unusedVariables false
set_option linter.unusedSimpArgs false
namespace Go.Proofs.Ytchikfabfhjkgaa
open Go.RowKit
/-- How many are still to come. -/
def totT (ys : List St) (rs : List (List En)) : Nat := ys.length + (rs.map List.length).sum
theorem sum_set : ∀ (rs : List (List En)) (i : Nat) (e : En) (r : List En), rs[i]? = some (e :: r) → ((rs.set i r).map List.length).sum + 1 = (rs.map List.length).sum
  | [], _, _, _, h => by simp at h
  | x :: rs, 0, e, r, h => by
    simp at h; subst h
    simp
    omega
  | x :: rs, i + 1, e, r, h => by
    have := sum_set rs i e r (by simpa using h)
    simp only [List.set_cons_succ, List.map_cons, List.sum_cons]
    omega
theorem Asked.tot {s : St} {ys ys1 : List St} {rs rs1 : List (List En)} (h : Asked s ys ys1 rs rs1) : totT ys1 rs1 = totT ys rs := by
  rcases h with ⟨-, rfl, rfl⟩ | ⟨e, r, h1, hp, rfl⟩
  · rfl
  · unfold totT
    have := sum_set rs s.num e r h1
    rw [hp.length_eq, List.length_append]
    simp only [List.length_cons, List.length_nil]
    omega
/-- The first field is written. -/
theorem MQ.c0set {w0 : World} {B m : Nat} {bxs : List Nat} {c0 c2 c3 lv : Value} {LL ys P : List St} {rs : List (List En)} {W : World} (h : MQ w0 B m bxs c0 c2 c3 lv LL ys P rs W) (c : Value) : MQ w0 B m bxs c c2 c3 lv LL ys P rs (W.setCell ⟨m, 0, none⟩ c) := by
  obtain ⟨av, hm, hr, hl⟩ := h.hm
  have hmlt : m < W.heap.size := (Array.getElem?_eq_some_iff.1 hm).1
  have s : Stay (fun k => k = m) W (W.setCell ⟨m, 0, none⟩ c) := stay_one _ _ _ _ _ (.refl _ _)
  have hm1 : Mb (W.setCell ⟨m, 0, none⟩ c) m c av c2 c3 := by
    unfold Mb
    rw [heap_setCell_same W m 0 _ _ _ hm]; rfl
  have ec : (W.setCell ⟨m, 0, none⟩ c).cell? ⟨m, 1, none⟩ = W.cell? ⟨m, 1, none⟩ := by rw [hm1.cell.1, hm.cell.1]
  exact {
    below := h.below.trans (s.toBelow (fun k hk e => by have := h.mB; omega) (Nat.le_trans h.mB (Nat.le_of_lt hmlt)))
    mB := h.mB
    hm := ⟨av, hm1, hr.keep s (fun k hk => hm.apart hr.own hk) (fun x hx => hm.st (hr.st x hx)), hl⟩
    rowB := fun u k h1 h2 => h.rowB u k (ec ▸ h1) h2
    heap := h.heap
    len := h.len
    src := fun i x r h1 h2 => (h.src i x r h1 h2).same (s.block x (h.src i x r h1 h2).lt (fun e => by
      obtain ⟨la, lc, hbx, -⟩ := (h.src i x r h1 h2).ex
      have h1 := hm
      unfold Mb at h1
      rw [← e, hbx] at h1; simp at h1))
    inj := h.inj
    st := h.st
    gvt := h.gvt
    stP := fun y hy => (s.block y.a (Array.getElem?_eq_some_iff.1 (h.stP y hy)).1 (hm.st (h.stP y hy))).trans (h.stP y hy)
    adr := h.adr
    nums := h.nums
    up := h.up
    ups := h.ups
    row := row_kept h.row s (fun k hk => hm.apart h.row hk)
    apart := fun u k h1 h2 => h.apart u k (ec ▸ h1) h2
    small := h.small
    lvB := h.lvB }
/-- A stand is made. -/
theorem MQ.fresh {w0 : World} {B m : Nat} {bxs : List Nat} {c0 c2 c3 lv : Value} {LL ys : List St} {rs : List (List En)} {W : World} (h : MQ w0 B m bxs c0 c2 c3 lv LL ys [] rs W) (i b : Nat) (hb : bxs[i]? = some b) (hi : ∀ y ∈ ys, y.num ≠ i) :
    MQ w0 B m bxs c0 c2 c3 lv LL ys [⟨W.heap.size, srcV b, i, e0, false⟩] rs (W.alloc (.cells (stC ⟨W.heap.size, srcV b, i, e0, false⟩).toArray 96)) := by
  have bb : Below W.heap.size W (W.alloc (.cells (stC ⟨W.heap.size, srcV b, i, e0, false⟩).toArray 96)) := (Below.refl _ W).alloc (Nat.le_refl _) _
  have h' := h.later bb
  obtain ⟨av, hm, hr, hl⟩ := h.hm
  have hB : B ≤ W.heap.size := Nat.le_trans h.mB (Nat.le_of_lt (Array.getElem?_eq_some_iff.1 hm).1)
  have hadr := h.adr
  have hnum := h.nums
  rw [List.append_nil] at hadr hnum
  exact { h' with
    st := fun y hy => by
      rcases List.mem_append.1 hy with k | k
      · exact h.st y (List.mem_append_left _ k)
      · simp at k; subst k; exact ⟨hB, b, hb, rfl⟩
    stP := fun y hy => by
      simp at hy; subst hy
      exact heap_alloc_last W _
    adr := by
      rw [List.map_append, List.nodup_append]
      refine ⟨hadr, by simp, fun x hx y hy => ?_⟩
      obtain ⟨z, hz, rfl⟩ := List.mem_map.1 hx
      simp at hy; subst hy
      exact Nat.ne_of_lt (Array.getElem?_eq_some_iff.1 (hr.st z hz)).1
    nums := by
      rw [List.map_append, List.nodup_append]
      refine ⟨hnum, by simp, fun x hx y hy => ?_⟩
      obtain ⟨z, hz, rfl⟩ := List.mem_map.1 hx
      simp at hy; subst hy
      exact hi z hz
    up := fun y hy r hr1 hg => by
      rcases List.mem_append.1 hy with k | k
      · exact h.up y (List.mem_append_left _ k) r hr1 hg
      · simp at k; subst k; cases hg }
/-- What is still to come at each of the first i sources: the one ahead and the rest. -/
structure RemTo (i : Nat) (ys : List St) (rs R : List (List En)) : Prop where
  len : rs.length = R.length
  lo : ∀ j l, j < i → R[j]? = some l → (l = [] ∧ rs[j]? = some [] ∧ ∀ y ∈ ys, y.num ≠ j) ∨ (∃ y ∈ ys, y.num = j ∧ ∃ r, rs[j]? = some r ∧ l = y.e :: r)
  hi : ∀ j, i ≤ j → rs[j]? = R[j]? ∧ ∀ y ∈ ys, y.num ≠ j
theorem RemTo.step {i : Nat} {ys ys2 : List St} {rs rs2 R : List (List En)} (h : RemTo i ys rs R) (s : St) (hs : s.num = i) (k : Asked s ys ys2 rs rs2) : RemTo (i + 1) ys2 rs2 R := by
  have hi := h.hi i (Nat.le_refl _)
  rcases k with ⟨k1, rfl, rfl⟩ | ⟨e, r, k1, k2, rfl⟩
  · rw [hs] at k1
    refine ⟨h.len, fun j l hj hl => ?_, fun j hj => h.hi j (by omega)⟩
    by_cases e : j = i
    · subst e
      rw [hi.1, hl] at k1
      cases k1
      exact .inl ⟨rfl, hi.1.trans hl, hi.2⟩
    · exact h.lo j l (by omega) hl
  · rw [hs] at k1 ⊢
    have hlt : i < rs.length := (List.getElem?_eq_some_iff.1 k1).1
    have mem : ∀ y, y ∈ ys2 ↔ y ∈ ys ∨ y = s.upd e := fun y => by rw [k2.mem_iff, List.mem_append]; simp
    refine ⟨by rw [List.length_set]; exact h.len, fun j l hj hl => ?_, fun j hj => ?_⟩
    · by_cases e' : j = i
      · subst e'
        rw [hi.1, hl] at k1
        cases k1
        exact .inr ⟨s.upd e, (mem _).2 (.inr rfl), hs, r, by rw [List.getElem?_set_self hlt], rfl⟩
      · rcases h.lo j l (by omega) hl with ⟨h1, h2, h3⟩ | ⟨y, h1, h2, r', h3, h4⟩
        · refine .inl ⟨h1, by rw [List.getElem?_set_ne (fun x => e' x.symm)]; exact h2, fun y hy => ?_⟩
          rcases (mem y).1 hy with hy | hy
          · exact h3 y hy
          · subst hy; exact fun x => e' (x.symm.trans hs)
        · exact .inr ⟨y, (mem y).2 (.inl h1), h2, r', by rw [List.getElem?_set_ne (fun x => e' x.symm)]; exact h3, h4⟩
    · have hj' := h.hi j (by omega)
      refine ⟨by rw [List.getElem?_set_ne (by omega)]; exact hj'.1, fun y hy => ?_⟩
      rcases (mem y).1 hy with hy | hy
      · exact hj'.2 y hy
      · subst hy
        have : (s.upd e).num = i := hs
        omega
def R3t (w0 : World) (B m : Nat) (bxs : List Nat) (c2 c3 : Value) (R : List (List En)) (W1 : World) (i : Nat) (wr : World) : Prop := ∃ ys rs, i ≤ bxs.length ∧ MQ w0 B m bxs (.slice none 0 0) c2 c3 (.slice none 0 0) [] ys [] rs wr ∧ RemTo i ys rs R ∧ KeepEn W1 wr ∧ KeepT 46 W1 wr ∧ ys.length ≤ i ∧ totT ys rs = totT [] R
theorem R3t.ask {w0 : World} {B m : Nat} {bxs : List Nat} {c2 c3 : Value} {R : List (List En)} {W1 wr : World} {i b : Nat} (h : R3t w0 B m bxs c2 c3 R W1 i wr) (hb : bxs[i]? = some b) (o : Obj) (X : World) (hX : X = wr.alloc o) :
    Calls Try.prog 52 #[.pointer (some ⟨m, 0, none⟩), .pointer (some ⟨X.heap.size, 0, none⟩)] (X.alloc (.cells (stC ⟨X.heap.size, srcV b, i, e0, false⟩).toArray 96)) fun r W' => r = .returned (.int .i64 0) ∧ R3t w0 B m bxs c2 c3 R W1 (i + 1) W' := by
  subst hX
  obtain ⟨ys, rs, h1, h2, h3, h4, h5, h6, h7⟩ := h
  have b0 : Below wr.heap.size wr (wr.alloc o) := (Below.refl _ wr).alloc (Nat.le_refl _) _
  have b1 : Below (wr.alloc o).heap.size (wr.alloc o) ((wr.alloc o).alloc (.cells (stC ⟨(wr.alloc o).heap.size, srcV b, i, e0, false⟩).toArray 96)) := (Below.refl _ _).alloc (Nat.le_refl _) _
  have hil : i < bxs.length := (List.getElem?_eq_some_iff.1 hb).1
  have hq := (h2.later b0).fresh i b hb (h3.hi i (Nat.le_refl _)).2
  have hsm := h2.small
  refine (hq.ask (by simp; omega)).mono ?_
  rintro r W' ⟨rfl, ys2, rs2, k1, k2, k3, k4⟩
  refine ⟨rfl, ys2, rs2, hil, k1, h3.step _ rfl k2, h4.trans ((KeepEn.below b0).trans ((KeepEn.below b1).trans k3)), h5.trans ((KeepT.below b0).trans ((KeepT.below b1).trans k4)), ?_, k2.tot.trans h7⟩
  have := k2.len
  omega
set_option maxHeartbeats 4000000 in
set_option maxRecDepth 100000 in
theorem begin_any {w0 : World} {B m : Nat} {bxs : List Nat} {c2 c3 : Value} {R : List (List En)} {W : World} (sb sc : Nat) (cur : Array Value) (h : MQ w0 B m bxs (.slice (some ⟨sb, 0, none⟩) bxs.length sc) c2 c3 (.slice none 0 0) [] [] [] R W)
    (hsb : W.heap[sb]? = some (.cells cur 46 (0, 0))) (hcur : ∀ (i b : Nat), bxs[i]? = some b → cur[i]? = some (srcV b)) :
    Calls Try.prog 38 #[.pointer (some ⟨m, 0, none⟩)] W fun r W' => r = .returned (.tuple #[]) ∧ ∃ ys rs, MQ w0 B m bxs (.slice none 0 0) c2 c3 (.slice none 0 0) [] ys [] rs W' ∧ RemTo bxs.length ys rs R ∧ KeepEn W W' ∧ ys.length ≤ bxs.length ∧ totT ys rs = totT [] R := by
  obtain ⟨av, hm, -, -⟩ := h.hm
  have p0 : W.cell? ⟨m, 0, none⟩ = some (.slice (some ⟨sb, 0, none⟩) bxs.length sc) := by
    unfold Mb at hm
    rw [cell_of_row _ _ 0 _ _ (0, 0) hm]; rfl
  have f0 : W.frozen? ⟨m, 0, none⟩ = false := frozen_of_row _ _ _ _ _ hm
  have hq := h.c0set (.slice none 0 0)
  have st0 : Stay (fun k => k = m) W (W.setCell ⟨m, 0, none⟩ (.slice none 0 0)) := stay_one _ _ _ _ _ (.refl _ _)
  have hke : KeepEn W (W.setCell ⟨m, 0, none⟩ (.slice none 0 0)) := KeepEn.stay st0 (fun k c f e hc => by
    have h1 := hm
    unfold Mb at h1
    rw [← e, hc] at h1; simp at h1)
  have hsb1 : (W.setCell ⟨m, 0, none⟩ (.slice none 0 0)).heap[sb]? = some (.cells cur 46 (0, 0)) := (st0.block sb (Array.getElem?_eq_some_iff.1 hsb).1 (fun e => by
    have h1 := hm
    unfold Mb at h1
    rw [← e, hsb] at h1; simp at h1)).trans hsb
  obtain ⟨W1, hW1⟩ : ∃ W1, W1 = W.setCell ⟨m, 0, none⟩ (.slice none 0 0) := ⟨_, rfl⟩
  rw [← hW1] at hq hke hsb1
  have hR0 : R3t w0 B m bxs c2 c3 R W1 0 W1 := ⟨[], R, Nat.zero_le _, hq, ⟨rfl, fun j l hj => absurd hj (Nat.not_lt_zero _), fun j _ => ⟨rfl, fun y hy => by simp at hy⟩⟩, .refl _, .refl _ _, Nat.zero_le _, rfl⟩
  have HH := Hid.mk (And.intro hR0 (And.intro hke (And.intro hsb1 hcur)))
  obtain ⟨kk, hkk⟩ : ∃ kk, kk = bxs.length := ⟨_, rfl⟩
  have HK := Hid.mk (And.intro hkk h.small)
  rw [← hkk] at p0
  have HW := Hid.mk hW1
  clear hR0 hke hsb1 hcur hq st0 hm h hkk hsb hW1
  go_enter Try.func38, Try.ntmps38
  go_wp2
  rw [← HW.out]
  go_loopw [15] (fun tv wr => ∃ t : Nat, tv = .int .i64 t ∧ R3t w0 B m bxs c2 c3 R W1 t wr) (fun tv _ => kk - (intOf tv).toNat)
  case atStart => exact ⟨0, rfl, HH.out.1⟩
  case round =>
    obtain ⟨t, rfl, hR⟩ := hrel
    by_cases htk : t < kk
    · have htb : t < bxs.length := Nat.lt_of_lt_of_eq htk HK.out.1
      have hb : bxs[t]? = some bxs[t] := List.getElem?_eq_getElem htb
      obtain ⟨b, hbe⟩ : ∃ b, b = bxs[t] := ⟨_, rfl⟩
      rw [← hbe] at hb
      have pc : wr.cell? ⟨sb, t, none⟩ = some (.func (.func 56) #[] #[.pointer (some ⟨b, 0, none⟩)]) := by
        obtain ⟨ys, rs, r1, r2, r3, r4, r5, r6, -⟩ := hR
        rw [cell_of_row _ _ t _ _ (0, 0) (r5 _ _ _ HH.out.2.2.1)]
        exact HH.out.2.2.2 t b hb
      have hask := fun o X hX => hR.ask hb o X hX
      have t1 : (t : Int) < (kk : Int) := Int.ofNat_lt.2 htk
      have t0 : (0 : Int) ≤ (t : Int) := Int.natCast_nonneg t
      have hwt : IntKind.i64.wrap ((t : Int) + 1) = (t : Int) + 1 := by
        have h1 := HK.out
        rw [IntKind.wrap_i64]; omega
      have hsz : ∀ o, (wr.alloc o).heap.size = wr.heap.size + 1 := fun o => by simp
      have hsb2 : sb < wr.heap.size := World.block_lt_of_cell? wr _ pc
      replace hask := Hid.mk hask
      clear hR hbe htb hb
      have hnf : ∀ (W : World), (binOp BinOp.eql 44 (.func (.func 56) #[] #[.pointer (some ⟨b, 0, none⟩)]) Value.nilFunc).run Try.prog W = .ok (.bool false) W := fun W => by kernel_rfl
      go_wp2_with fail
      have ha := hask.out (.cells #[.func (.func 56) #[] #[.pointer (some ⟨b, 0, none⟩)]] 46) _ rfl
      rw [hsz] at ha
      simp only [stC, srcV, e0] at ha
      refine ha.mono ?_
      clear ha hask hsz
      rintro r W5 ⟨rfl, hR5⟩
      go_wp2_with fail
      exact ⟨⟨t + 1, by rw [Int.natCast_add]; rfl, hR5⟩, by simp only [intOf]; omega⟩
    · have t1 : ¬ (t : Int) < (kk : Int) := fun h => htk (Int.ofNat_lt.1 h)
      obtain ⟨ys, rs, r1, r2, r3, r4, r5, r6, r7⟩ := hR
      have hte : t = bxs.length := by
        have := HK.out.1
        omega
      rw [hte] at r3 r6
      have fin := Hid.mk (And.intro r2 (And.intro r3 (And.intro (HH.out.2.1.trans r4) (And.intro r6 r7))))
      clear r1 r2 r3 r4 r5 r6 r7 hte htk HH HK
      go_wp2
      go_end0
      exact ⟨rfl, ys, rs, fin.out⟩
end Go.Proofs.Ytchikfabfhjkgaa
