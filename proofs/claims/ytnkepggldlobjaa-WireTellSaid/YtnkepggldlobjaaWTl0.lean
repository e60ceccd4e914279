/-
  DERIVED. WireTell: what the walk keeps.
-/
import Derived.Test.YtnkepggldlobjaaWRefT2
import Derived.Test.YtnkepggldlobjaaWBeg
set_option linter.unusedVariables false
set_option linter.unusedSimpArgs false
namespace Go.Proofs.Ytnkepggldlobjaa
open Go.RowKit Go.Proofs.SealMath
set_option maxHeartbeats 4000000 in
set_option maxRecDepth 100000 in
theorem sameHits_big (L : List Ht) (a a' : Option Addr) (c c' : Nat) (w : World) (h1 : HsAt w a L) (h2 : HsAt w a' L) (hn : L.length < 4611686018427387904) :
    Calls Try.prog 15 #[.slice a L.length c, .slice a' L.length c'] w fun e w' => e = .returned (.bool true) ∧ Drew w w' := by
  obtain ⟨n, hne⟩ : ∃ n, n = L.length := ⟨_, rfl⟩
  rw [← hne]
  have HH := Hid.mk (And.intro h1 (And.intro h2 (And.intro hne hn)))
  clear h1 h2 hne hn
  go_enter Try.func15, Try.ntmps15
  go_wp2
  go_loopw [5] (fun u wr => ∃ i : Nat, u = .int .i64 i ∧ i ≤ n ∧ Drew w wr) (fun u _ => n - (intOf u).toNat)
  case atStart => exact ⟨0, rfl, Nat.zero_le _, Drew.refl _⟩
  case round =>
    obtain ⟨i, rfl, hin, hd⟩ := hrel
    obtain ⟨nq, rfl⟩ := hd
    by_cases hlt : i < n
    · have hlt' : (i : Int) < (n : Int) := by omega
      have i0 : 0 ≤ (i : Int) := by omega
      have hil : i < L.length := by have := HH.out.2.2.1; omega
      have hw1 : Hid (IntKind.i64.wrap ((i : Int) + 1) = ((i + 1 : Nat) : Int)) := i64_in _ (by omega) (by have := HH.out.2.2; omega)
      rcases HH.out.1 with h | ⟨g, off, rfl, hg, hc⟩
      · rw [h] at hil; simp at hil
      rcases HH.out.2.1 with h | ⟨g', off', rfl, hg', hc'⟩
      · rw [h] at hil; simp at hil
      obtain ⟨p0, p1, p2⟩ := hc i hil
      obtain ⟨q0, q1, q2⟩ := hc' i hil
      have heq := fun W => ht_neq L[i] L[i] W
      have hE : htE L[i] L[i] = true := (htE_iff _ _).2 rfl
      rw [hE] at heq
      obtain ⟨x, hx⟩ : ∃ x, x = L[i] := ⟨_, rfl⟩
      rw [← hx] at p0 p1 p2 q0 q1 q2 heq
      obtain ⟨x0, x1, x2⟩ := x
      simp only [htV, Bool.not_true] at p0 p1 p2 q0 q1 q2 heq
      clear hx hE hc hc' hg hg'
      have hw := hw1.out
      clear hw1 hil
      go_wp2
      go_quiet (fail)
      go_wp2
      clear hw
      exact ⟨⟨i + 1, rfl, by omega, ⟨_, rfl⟩⟩, by simp only [intOf]; omega⟩
    · have hlt' : ¬ (i : Int) < (n : Int) := by omega
      clear hlt
      go_wp2
      go_ret
      exact ⟨rfl, ⟨_, rfl⟩⟩
theorem one3 (m : List Ht) : ∀ u ∈ m.flatMap htL, u.oneCell' = true := fun u hu => by
  obtain ⟨e, _, he⟩ := List.mem_flatMap.1 hu
  simp [htL] at he
  rcases he with rfl | rfl | rfl <;> rfl
/-- Hits that came in are put behind none. -/
theorem hit_copy (W : World) (m : List Ht) (a : Option Addr) (c : Nat) (hm : HsAt W a m) (hb : m.length * 32 ≤ 140737488355328) :
    ∃ v' w', (Builtin.append_ #[35, 35] 35 #[.slice none 0 0, .slice a m.length c]).run Try.prog W = .ok v' w' ∧ HRow w' v' m ∧ Below W.heap.size W w' ∧ (∀ k, v'.ownBlock = some k → W.heap.size ≤ k) := by
  obtain ⟨i0, hi, hz0, hz1, hz2⟩ := info_parts infoHt
  have h : W.ownsRow 0 39 3 (.slice none 0 0) 0 [] := ⟨by simp, .inl ⟨rfl, rfl⟩⟩
  rcases hm with rfl | ⟨g, off, rfl, hg, hc⟩
  · refine ⟨.slice none 0 0, W, ?_, ⟨rfl, .inl ⟨rfl, rfl⟩⟩, Below.refl _ _, fun k hk => (by cases hk)⟩
    have hf : (Builtin.firstCells 3 0 (.slice a 0 c)).run Try.prog W = .ok #[] W := by cases a <;> simp [Builtin.firstCells, loadCells, loadCellsFrom]
    simp [Builtin.append_, run_underlying Try.underlying35, sizeOf, typeInfo, hi, hz1, Builtin.lenOf, hf]
  · obtain ⟨v', w', hrun, ho, hgr, _, hloc⟩ := run_append_own_at (P := Try.prog) W 0 35 35 39 i0 _ 3 32 Try.underlying35 hi hz0 hz1 hz2 rfl (by decide) (.slice none 0 0) 0 [] h ⟨g, off, none⟩ m.length c (m.flatMap htL) (flat_len3 m) (fun j u hu => by
      have e1 : (⟨g, off, none⟩ : Addr).add j = ⟨g, off + j, none⟩ := by unfold Addr.add; split <;> simp_all
      rw [e1]
      have hj : j < m.length * 3 := by rw [← flat_len3 m]; exact (List.getElem?_eq_some_iff.1 hu).1
      obtain ⟨c0, c1, c2⟩ := hc (j / 3) (by omega)
      obtain ⟨f0, f1, f2⟩ := flat_at3 m (j / 3) (by omega)
      have : j % 3 = 0 ∨ j % 3 = 1 ∨ j % 3 = 2 := by omega
      rcases this with k | k | k
      · rw [show j = j / 3 * 3 by omega, f0] at hu; cases hu; rw [show off + j = off + j / 3 * 3 by omega]; exact c0
      · rw [show j = j / 3 * 3 + 1 by omega, f1] at hu; cases hu; rw [show off + j = off + j / 3 * 3 + 1 by omega]; exact c1
      · rw [show j = j / 3 * 3 + 2 by omega, f2] at hu; cases hu; rw [show off + j = off + j / 3 * 3 + 2 by omega]; exact c2) (one3 m) (by unfold maxLen; omega) (by omega) (Nat.zero_le _)
    refine ⟨v', w', hrun, by unfold HRow; simpa using ho, ⟨hgr.os, hgr.tape, hgr.output, hgr.size, fun i hi' => hgr.block i hi' (by simp [Value.ownBlock])⟩, fun k hk => ?_⟩
    rcases hloc with hl | hl
    · rw [hl] at hk; cases hk
    · rw [hl] at hk; cases hk; exact Nat.le_refl _
theorem flat_set3 : ∀ (X : List Ht) (i : Nat) (e : Ht), i < X.length → ((((X.flatMap htL).set (i * 3) (.int .i64 e.d)).set (i * 3 + 1) (.int .i64 e.i)).set (i * 3 + 2) (.string e.c)) = (X.set i e).flatMap htL
  | [], _, _, h => by simp at h
  | x :: X, 0, e, _ => by simp [htL]
  | x :: X, i + 1, e, h => by
    have ih := flat_set3 X i e (by simpa using h)
    have hl3 : (htL x).length = 3 := rfl
    have hh : ∀ (L : List Value) (j : Nat) (u : Value), (htL x ++ L).set ((i + 1) * 3 + j) u = htL x ++ L.set (i * 3 + j) u := fun L j u => by
      rw [List.set_append_right _ _ (by rw [hl3]; omega), hl3]
      congr 2; omega
    have h0 := fun L u => hh L 0 u
    simp only [Nat.add_zero] at h0
    rw [List.flatMap_cons, h0, hh, hh, ih, List.set_cons_succ, List.flatMap_cons]
def putH (W : World) (g i : Nat) (x : Ht) : World := ((W.setCell ⟨g, i * 3, none⟩ (.int .i64 x.d)).setCell ⟨g, i * 3 + 1, none⟩ (.int .i64 x.i)).setCell ⟨g, i * 3 + 2, none⟩ (.string x.c)
theorem HRow.set {W : World} {g cap n : Nat} {X : List Ht} (h : HRow W (.slice (some ⟨g, 0, none⟩) n cap) X) (i : Nat) (hi : i < X.length) (x : Ht) : HRow (putH W g i x) (.slice (some ⟨g, 0, none⟩) n cap) (X.set i x) := by
  have hn : n = X.length := by obtain ⟨a, c, e, _⟩ := slice_form h; injection e
  subst hn
  have h1 := (World.ownsRow.stored (World.ownsRow.stored (World.ownsRow.stored h (i * 3) (.int .i64 x.d)).1 (i * 3 + 1) (.int .i64 x.i)).1 (i * 3 + 2) (.string x.c)).1
  rw [flat_set3 X i x hi] at h1
  unfold HRow
  rw [List.length_set]
  exact h1
theorem putH_stay (W : World) (g i : Nat) (x : Ht) : Stay (fun k => k = g) W (putH W g i x) :=
  Stay.setCell (F := fun k => k = g) (p := ⟨g, i * 3 + 2, none⟩) (Stay.setCell (F := fun k => k = g) (p := ⟨g, i * 3 + 1, none⟩) (Stay.setCell (F := fun k => k = g) (p := ⟨g, i * 3, none⟩) (Stay.refl _ W) (fun _ => rfl) _) (fun _ => rfl) _) (fun _ => rfl) _
/-- The hits that the law writes. -/
def zh (k : Nat) : Ht := ⟨k, 7, ⟨#[122]⟩⟩
def zs (n : Nat) : List Ht := (List.range n).map zh
theorem zs_len (n : Nat) : (zs n).length = n := by simp [zs]
theorem zs_succ (n : Nat) : zs (n + 1) = zs n ++ [zh n] := by simp [zs, List.range_succ]
theorem zs_w (n : Nat) (h : n ≤ 9223372036854775807) : HtsW (zs n) := fun x hx => by
  obtain ⟨k, hk, rfl⟩ := List.mem_map.1 hx
  have := List.mem_range.1 hk
  exact ⟨by show (k : Int) ≤ _; omega, by show (7 : Int) ≤ _; omega⟩
theorem zs_set (Y : List Ht) (i : Nat) (hi : i < Y.length) : (zs i ++ Y.drop i).set i (zh i) = zs (i + 1) ++ Y.drop (i + 1) := by
  rw [List.set_append_right _ _ (by rw [zs_len]; exact Nat.le_refl _), zs_len, Nat.sub_self, List.drop_eq_getElem_cons hi, List.set_cons_zero, zs_succ]
  simp
/-- What stands while the hits are written over: r's box, p's box, the list handed in, the other one. -/
structure TI (w W : World) (rb pb g n c2 : Nat) (r : Rp) (s vo : Value) (X K : List Ht) : Prop where
  rbx : HC W rb (rpC r s) 37
  pbx : HC W pb (rpC r (.slice (some ⟨g, 0, none⟩) n c2)) 37
  inr : HRow W (.slice (some ⟨g, 0, none⟩) (n + 1) c2) X
  oth : HRow W vo K
  ap : ¬ vo.ownBlock = some g
  old : Below w.heap.size w W
  lr : w.heap.size ≤ rb
  lg : w.heap.size ≤ g
  lo : ∀ k, vo.ownBlock = some k → w.heap.size ≤ k
  ne : rb ≠ pb
theorem hr_ne {W : World} {v : Value} {X : List Ht} {b : Nat} {C : Array Value} (h : HRow W v X) (hb : HC W b C 37) : ¬ v.ownBlock = some b := fun e => by
  obtain ⟨cur, hc⟩ := row_block h e
  unfold HC at hb
  rw [hc] at hb
  injection hb with hb; injection hb with _ hb; revert hb; decide
theorem TI.below {w W W' : World} {rb pb g n c2 : Nat} {r : Rp} {s vo : Value} {X K : List Ht} (h : TI w W rb pb g n c2 r s vo X K) (b : Below W.heap.size W W') : TI w W' rb pb g n c2 r s vo X K :=
  ⟨HC.below h.rbx b, HC.below h.pbx b, HRow.stay (F := fun _ => False) h.inr (.below b) (fun _ _ h => h), HRow.stay (F := fun _ => False) h.oth (.below b) (fun _ _ h => h), h.ap, chain h.old b (Nat.le_refl _), h.lr, h.lg, h.lo, h.ne⟩
theorem TI.drew {w W W' : World} {rb pb g n c2 : Nat} {r : Rp} {s vo : Value} {X K : List Ht} (h : TI w W rb pb g n c2 r s vo X K) (b : Drew W W') : TI w W' rb pb g n c2 r s vo X K := h.below (b.below _)
theorem TI.set {w W : World} {rb pb g n c2 : Nat} {r : Rp} {s vo : Value} {X K : List Ht} (h : TI w W rb pb g n c2 r s vo X K) (i : Nat) (hi : i < X.length) (x : Ht) : TI w (putH W g i x) rb pb g n c2 r s vo (X.set i x) K := by
  have st := putH_stay W g i x
  exact ⟨HC.stay h.rbx st (fun e => hr_ne h.inr h.rbx (by rw [e]; rfl)), HC.stay h.pbx st (fun e => hr_ne h.inr h.pbx (by rw [e]; rfl)), h.inr.set i hi x, HRow.stay h.oth st (fun k hk e => h.ap (by rw [hk, e])), h.ap, h.old.trans (Stay.toBelow st (fun k hk e => by have := h.lg; omega) h.old.size), h.lr, h.lg, h.lo, h.ne⟩
theorem TI.app {w W W' : World} {rb pb g n c2 : Nat} {r : Rp} {s vo vo' : Value} {X K K' : List Ht} (h : TI w W rb pb g n c2 r s vo X K) (hr : HRow W' vo' K') (st : Stay (fun k => vo.ownBlock = some k) W W') (loc : ∀ k, vo'.ownBlock = some k → vo.ownBlock = some k ∨ W.heap.size ≤ k) : TI w W' rb pb g n c2 r s vo' X K' :=
  ⟨HC.stay h.rbx st (hr_ne h.oth h.rbx), HC.stay h.pbx st (hr_ne h.oth h.pbx), HRow.stay h.inr st (fun k hk e => h.ap (by cases hk; exact e)), hr, fun e => (loc g e).elim h.ap (fun q => by have := row_lt h.inr (k := g) rfl; omega), h.old.trans (Stay.toBelow st (fun k hk e => by have := h.lo k e; omega) h.old.size), h.lr, h.lg, fun k hk => (loc k hk).elim (h.lo k) (fun q => Nat.le_trans h.old.size q), h.ne⟩
theorem TI.put {w W : World} {rb pb g n c2 : Nat} {r : Rp} {s vo : Value} {X K : List Ht} (h : TI w W rb pb g n c2 r s vo X K) (s' : Value) : TI w (W.setCell ⟨rb, 3, none⟩ s') rb pb g n c2 r s' vo X K := by
  have st : Stay (fun k => k = rb) W (W.setCell ⟨rb, 3, none⟩ s') := Stay.setCell (F := fun k => k = rb) (p := ⟨rb, 3, none⟩) (Stay.refl _ W) (fun _ => rfl) _
  exact ⟨by simpa using HC.set h.rbx 3 s', HC.stay h.pbx st (fun e => h.ne e.symm), HRow.stay h.inr st (fun k hk e => by cases hk; exact hr_ne h.inr h.rbx (by rw [← e]; rfl)), HRow.stay h.oth st (fun k hk e => hr_ne h.oth h.rbx (by rw [← e]; exact hk)), h.ap, h.old.trans (Stay.toBelow st (fun k hk e => by have := h.lr; omega) h.old.size), h.lr, h.lg, h.lo, h.ne⟩
/-- The first so many of the list handed in. -/
theorem TI.first {w W : World} {rb pb g n c2 : Nat} {r : Rp} {s vo : Value} {X K Y : List Ht} (h : TI w W rb pb g n c2 r s vo X K) (m : Ht) (hX : X = Y ++ [m]) : HsAt W (some ⟨g, 0, none⟩) Y := by
  subst hX
  refine .inr ⟨g, 0, rfl, row_lt h.inr (k := g) rfl, fun i hi => ?_⟩
  obtain ⟨g', cap', e, c0, c1, c2⟩ := h.inr.cells i (by simp; omega)
  injection e with e1 e2 e3
  injection e1 with e1
  injection e1 with e1
  subst e1
  rw [List.getElem_append_left hi] at c0 c1 c2
  rw [Nat.zero_add]
  exact ⟨c0, c1, c2⟩
theorem TI.mark {w W : World} {rb pb g n c2 : Nat} {r : Rp} {s vo : Value} {X K Y : List Ht} (h : TI w W rb pb g n c2 r s vo X K) (m : Ht) (hX : X = Y ++ [m]) : W.cell? ⟨g, Y.length * 3, none⟩ = some (.int .i64 m.d) := by
  subst hX
  obtain ⟨g', cap', e, c0, c1, c2⟩ := h.inr.cells Y.length (by simp)
  injection e with e1 e2 e3
  injection e1 with e1
  injection e1 with e1
  subst e1
  rw [List.getElem_append_right (Nat.le_refl _)] at c0
  simpa using c0
theorem TI.cell {w W : World} {rb pb g n c2 : Nat} {r : Rp} {s vo : Value} {X K : List Ht} (h : TI w W rb pb g n c2 r s vo X K) (i : Nat) (hi : i < X.length) : (W.cell? ⟨g, i * 3, none⟩ = some (.int .i64 X[i].d) ∧ W.cell? ⟨g, i * 3 + 1, none⟩ = some (.int .i64 X[i].i) ∧ W.cell? ⟨g, i * 3 + 2, none⟩ = some (.string X[i].c)) ∧ ∀ j, W.frozen? ⟨g, j, none⟩ = false := by
  obtain ⟨g', cap', e, c0, c1, c2⟩ := h.inr.cells i hi
  injection e with e1 e2 e3
  injection e1 with e1
  injection e1 with e1
  subst e1
  obtain ⟨cur, hc⟩ := row_block h.inr (k := g) rfl
  exact ⟨⟨c0, c1, c2⟩, fun j => frozen_of_row _ _ _ _ _ hc⟩
end Go.Proofs.Ytnkepggldlobjaa
