/-
  DERIVED. BX4, BOrd, as one text.
-/
import Derived.Test.YtjdpolhjbkpnlaaGreatDoorLzAM
import Derived.Test.YtjdpolhjbkpnlaaGreatDoorLzAK
import Derived.Test.YtjdpolhjbkpnlaaGreatDoorLzAL
import Derived.BigRegion
import Derived.BigQuiet
import Derived.Deep.Cut
import Derived.Laws.IdiomCopy
import Derived.Test.YtjdpolhjbkpnlaaGreatDoorLzAH
import Derived.Test.YtjdpolhjbkpnlaaGreatDoorLzAI
set_option linter.unusedVariables false
set_option linter.unusedSimpArgs false
namespace Go.Proofs.YtjdpolhjbkpnlaaGreatDoor.Dx
open Go.RowKit Go.Proofs.SealMath
open Go.Proofs.YtjdpolhjbkpnlaaGreatDoor.Rb
set_option maxHeartbeats 8000000 in
set_option maxRecDepth 100000 in
theorem rread_any (k0 : Nat) (p0 : List UInt8) (q0 : Nat) (r : List Fr) (g cap : Nat) (w : World) (hsum : (((k0, p0, q0) :: r).map (fun f => f.2.1.length)).sum ≤ 1099511627776)
    (hc : ∀ (i : Nat) (f : Fr), ((k0, p0, q0) :: r)[i]? = some f → w.cell? ⟨g, i * 3, none⟩ = some (.int .i64 (f.1 : Nat)) ∧ w.cell? ⟨g, i * 3 + 1, none⟩ = some (.string ⟨f.2.1.toArray⟩)) (hkb : ∀ f ∈ (k0, p0, q0) :: r, f.1 ≤ 255) (hrl : r.length < 4611686018427387904) :
    Calls Tryz.prog 25 #[.slice (some ⟨g, 0, none⟩) (r.length + 1) cap] w (RdO ((k0, p0, q0) :: r) w) := by
  obtain ⟨W1, hW1⟩ : ∃ W1, W1 = w.alloc (.cells #[.int .i64 0, .int .i64 0, .int .i64 0, .int .i64 0, .int .i64 0, .int .i64 0] 31) := ⟨_, rfl⟩
  have hn : Below w.heap.size w W1 := by rw [hW1]; exact (Below.refl _ w).alloc (Nat.le_refl _) _
  have hB : W1.heap[w.heap.size]? = some (.cells (hdC h0).toArray 31 (0, 0)) := by rw [hW1]; exact heap_alloc_last w _
  obtain ⟨cK, cP⟩ := hc 0 _ rfl
  rw [Nat.zero_mul] at cK cP
  rw [Nat.zero_add] at cP
  dsimp only at cK cP
  have cK1 := cell_lat hn cK
  have cP1 := cell_lat hn cP
  have hgw : g < w.heap.size := World.block_lt_of_cell? w _ cK
  have hp0 : p0.length ≤ 1099511627776 := by simp only [List.map_cons, List.sum_cons] at hsum; omega
  have hl0 : ¬ ((r.length : Int) + 1 = 0) := by omega
  have hl1 : (((r.length : Int) + 1) == 0) = false := beq_false_of_ne hl0
  have hl2 : (0 : Int) < (r.length : Int) + 1 := by omega
  have HC := Hid.mk (And.intro hc (And.intro hsum hkb))
  have hk0 : k0 ≤ 255 := hkb (k0, p0, q0) (by simp)
  clear hc hsum cK cP hkb
  by_cases h4 : k0 = 4
  · subst h4
    have hnm := rnumbers_any ⟨p0.toArray⟩ 6 W1 (by rw [ba_len]; omega) (by omega)
    go_enter Tryz.func25, Tryz.ntmps25
    go_upto_region 1 with fail
    first | rw [← hW1] | (simp at hW1; rw [← hW1])
    clear hW1
    go_wp2_with fail
    refine hnm.mono ?_
    clear hnm
    rintro rr w2 ⟨b2, hO⟩
    replace hB := (b2.block _ (Array.getElem?_eq_some_iff.1 hB).1).trans hB
    have bw2 := hn.trans (b2.mono hn.size)
    rcases hO with ⟨hns, rfl⟩ | ⟨l, q, v, hns, rfl, hrow, hlo⟩
    · have HE := Hid.mk (show rdD ((4, p0, q0) :: r) = none by unfold rdD; dsimp only; rw [if_pos rfl, hns])
      have HF := Hid.mk (And.intro (set6_at (h := h0) hB) (bw2.trans ((set6_stay w2 w.heap.size h0).toBelow (B := w.heap.size) (fun k hk e => by omega) bw2.size)))
      obtain ⟨⟨g0, g1, g2, g3, g4, g5⟩, z0, z1, z2, z3, z4, z5⟩ := hd6 hB
      simp only [h0] at g0 g1 g2 g3 g4 g5
      clear hns b2
      go_wp2
      obtain ⟨w9, hw9⟩ : ∃ w9, set6 w2 w.heap.size h0 = w9 := ⟨_, rfl⟩
      rw [hw9] at HF
      obtain ⟨⟨k0, k1, k2, k3, k4, k5⟩, -⟩ := hd6 HF.out.1
      simp only [set6, h0] at hw9
      rw [hw9]
      refine bodyPost_ret (v := rdN) (by simp [results, Tryz.results25, go_sem, rdN, hdC, k0, k1, k2, k3, k4, k5]; try rfl) rfl ?_
      exact ⟨HF.out.2, .inl ⟨HE.out, rfl⟩⟩
    · obtain ⟨hl6, -, hq, hle⟩ := nsD_at _ 6 0 q l hns (Nat.zero_le _)
      obtain ⟨a, c, d, e, f, n, rfl⟩ : ∃ a c d e f n, l = [a, c, d, e, f, n] := by
        match l, hl6 with
        | [a, c, d, e, f, n], _ => exact ⟨a, c, d, e, f, n, rfl⟩
      have ha := hle a (by simp)
      obtain ⟨va, vc, rfl, hat⟩ := int_at hrow
      obtain ⟨gl, rfl, x0⟩ := hat 0 (by simp)
      have xs : ∀ (j : Nat) (u : Nat), [a, c, d, e, f, n][j]? = some u → w2.cell? ⟨gl, j, none⟩ = some (.int .i64 u) := fun j u hu => by
        obtain ⟨hj, rfl⟩ := List.getElem?_eq_some_iff.1 hu
        obtain ⟨g', hg', x⟩ := hat j hj
        cases hg'
        exact x
      have x0 := xs 0 a rfl
      have x1 := xs 1 c rfl
      have x2 := xs 2 d rfl
      have x3 := xs 3 e rfl
      have x4 := xs 4 f rfl
      have x5 := xs 5 n rfl
      simp only [List.length_cons, List.length_nil, Nat.zero_add, Nat.reduceAdd]
      obtain ⟨HD, hHD⟩ : ∃ HD : Hd, HD = ⟨a, c, d, e, f, n⟩ := ⟨_, rfl⟩
      obtain ⟨BS, hBS⟩ : ∃ BS, BS = bsD (a / 8) (pyl r) := ⟨_, rfl⟩
      have hw := fun W => rwidth_any (a : Int) W
      have HR : Hid (∀ b : Bool, isW (a : Int) = b → rdD ((4, p0, q0) :: r) = if b = true then BS.map (fun m => (HD, m)) else none) := Hid.mk (fun b hb => by
        unfold rdD; dsimp only; rw [if_pos rfl, hns]; dsimp only; rw [hb, hBS, hHD])
      have hgl := hlo gl rfl
      have hgl2 : gl < w2.heap.size := World.block_lt_of_cell? _ _ x0
      have hgl3 : gl ≠ w2.heap.size := by omega
      have y5 := ((Below.refl _ w2).alloc (Nat.le_refl _) (.cells #[.int .i64 0, .int .i64 0, .int .i64 0, .int .i64 0, .int .i64 0, .int .i64 0] 31)).cell (p := ⟨gl, 5, none⟩) hgl2 |>.trans x5
      have y4 := ((Below.refl _ w2).alloc (Nat.le_refl _) (.cells #[.int .i64 0, .int .i64 0, .int .i64 0, .int .i64 0, .int .i64 0, .int .i64 0] 31)).cell (p := ⟨gl, 4, none⟩) hgl2 |>.trans x4
      clear hat xs hrow hlo hns hle
      obtain ⟨V, hV⟩ : ∃ V, V = (w2.alloc (.cells #[.int .i64 a, .int .i64 c, .int .i64 d, .int .i64 e, .int .i64 f, .int .i64 n] 31)).drew := ⟨_, rfl⟩
      have bV : Below w2.heap.size w2 V := by rw [hV]; exact ((Below.refl _ w2).alloc (Nat.le_refl _) _).drew
      have hBV := (bV.block _ (Array.getElem?_eq_some_iff.1 hB).1).trans hB
      have hHV : V.heap[w2.heap.size]? = some (.cells (hdC HD).toArray 31 (0, 0)) := by rw [hV, hHD]; exact heap_alloc_last w2 _
      have bwV : Below w.heap.size w V := bw2.trans (bV.mono bw2.size)
      have HVV := Hid.mk (And.intro hBV (And.intro hHV (And.intro bwV hHD)))
      have HBS := Hid.mk hBS
      have HVe := Hid.mk hV
      have hne : w2.heap.size ≠ w.heap.size := by have := (Array.getElem?_eq_some_iff.1 hB).1; omega
      clear bV hBV hHV bwV hV hBS hHD hB b2 bw2
      go_upto_region 6 with fail
      go_region
      rename_i K1 hK1
      rw [← HVe.out]
      refine hK1 _ _ ?_
      exact read_tail a HD BS HC.out.1 HC.out.2.1 HC.out.2.2 hrl HVV.out.1 HVV.out.2.1 HVV.out.2.2.1 hne (by rw [HVV.out.2.2.2]) HBS.out HR.out
  · have HE := Hid.mk (show rdD ((k0, p0, q0) :: r) = none by unfold rdD; dsimp only; rw [if_neg h4])
    have h4i : ¬ ((k0 : Int) = 4) := by omega
    have h4b : ((k0 : Int) != 4) = true := by simpa using h4i
    go_enter Tryz.func25, Tryz.ntmps25
    go_upto_region 1 with fail
    first | rw [← hW1] | (simp at hW1; rw [← hW1])
    clear hW1
    have HF := Hid.mk (And.intro (set6_at (h := h0) hB) (hn.trans ((set6_stay W1 w.heap.size h0).toBelow (B := w.heap.size) (fun k hk e => by omega) hn.size)))
    obtain ⟨⟨g0, g1, g2, g3, g4, g5⟩, z0, z1, z2, z3, z4, z5⟩ := hd6 hB
    simp only [h0] at g0 g1 g2 g3 g4 g5
    go_wp2
    obtain ⟨w9, hw9⟩ : ∃ w9, set6 W1 w.heap.size h0 = w9 := ⟨_, rfl⟩
    rw [hw9] at HF
    obtain ⟨⟨k0, k1, k2, k3, k4, k5⟩, -⟩ := hd6 HF.out.1
    simp only [set6, h0] at hw9
    rw [hw9]
    refine bodyPost_ret (v := rdN) (by simp [results, Tryz.results25, go_sem, rdN, hdC, k0, k1, k2, k3, k4, k5]; try rfl) rfl ?_
    exact ⟨HF.out.2, .inl ⟨HE.out, rfl⟩⟩
end Go.Proofs.YtjdpolhjbkpnlaaGreatDoor.Dx
set_option linter.unusedVariables false
set_option linter.unusedSimpArgs false
namespace Go.Proofs.YtjdpolhjbkpnlaaGreatDoor
open Go.RowKit Go.Proofs.SealMath
theorem cmpB_rev : ∀ a b : List UInt8, Lib.compareBytes b a = - Lib.compareBytes a b
  | [], [] => by simp [Lib.compareBytes]
  | [], _ :: _ => by simp [Lib.compareBytes]
  | _ :: _, [] => by simp [Lib.compareBytes]
  | a :: x, b :: y => by
    unfold Lib.compareBytes
    by_cases h1 : a < b
    · have : ¬ b < a := UInt8.not_lt.2 (UInt8.le_of_lt h1)
      simp [h1, this]
    · by_cases h2 : b < a
      · simp [h1, h2]
      · simp [h1, h2, cmpB_rev x y]
theorem cmpB_tr : ∀ a b c : List UInt8, Lib.compareBytes a b ≤ 0 → Lib.compareBytes b c ≤ 0 → Lib.compareBytes a c ≤ 0 ∧ (Lib.compareBytes a c = 0 → Lib.compareBytes a b = 0 ∧ Lib.compareBytes b c = 0)
  | [], [], [] => by simp [Lib.compareBytes]
  | [], [], _ :: _ => by simp [Lib.compareBytes]
  | [], _ :: _, [] => by simp [Lib.compareBytes]
  | [], _ :: _, _ :: _ => by simp [Lib.compareBytes]
  | _ :: _, [], [] => by simp [Lib.compareBytes]
  | _ :: _, [], _ :: _ => by simp [Lib.compareBytes]
  | _ :: _, _ :: _, [] => by simp [Lib.compareBytes]
  | a :: x, b :: y, c :: z => by
    unfold Lib.compareBytes
    intro h1 h2
    by_cases p1 : a < b
    · by_cases q1 : b < c
      · have : a < c := UInt8.lt_trans p1 q1
        simp [this]
      · by_cases q2 : c < b
        · simp [q1, q2] at h2
        · have e : b = c := UInt8.le_antisymm (UInt8.not_lt.1 q2) (UInt8.not_lt.1 q1)
          subst e
          simp [p1]
    · by_cases p2 : b < a
      · simp [p1, p2] at h1
      · have e : a = b := UInt8.le_antisymm (UInt8.not_lt.1 p2) (UInt8.not_lt.1 p1)
        subst e
        simp [p1] at h1
        by_cases q1 : a < c
        · simp [q1]
        · by_cases q2 : c < a
          · simp [q1, q2] at h2
          · have e : a = c := UInt8.le_antisymm (UInt8.not_lt.1 q2) (UInt8.not_lt.1 q1)
            subst e
            simp [q1] at h2
            have := cmpB_tr x y z h1 h2
            simpa [p1] using this
theorem cmpB_tri (a b : List UInt8) : Lib.compareBytes a b < 0 ∨ Lib.compareBytes a b = 0 ∨ 0 < Lib.compareBytes a b := by omega
theorem cpE_rev (a b : En) : cpE b a = - cpE a b := by
  unfold cpE
  have hb := cmpB_rev a.c.data.toList b.c.data.toList
  have hi : ∀ x y : Int, Lib.compareInt y x = - Lib.compareInt x y := fun x y => by
    unfold Lib.compareInt
    split <;> split <;> first | omega | (split <;> omega)
  by_cases h1 : a.v = b.v
  · rw [if_pos h1, if_pos h1.symm, hb]
    by_cases h2 : Lib.compareBytes a.c.data.toList b.c.data.toList = 0
    · rw [if_pos h2, if_pos (by omega), hi]
    · rw [if_neg h2, if_neg (by omega)]
  · rw [if_neg h1, if_neg (fun h => h1 h.symm), hi]
/-- Not above, and not above: not above; and at one place only if all are. -/
theorem cpE_tr (a b c : En) (h1 : cpE a b ≤ 0) (h2 : cpE b c ≤ 0) : cpE a c ≤ 0 ∧ (cpE a c = 0 → cpE a b = 0 ∧ cpE b c = 0) := by
  have tr := cmpB_tr a.c.data.toList b.c.data.toList c.c.data.toList
  have z1 := cmp_zero a.c.data.toList b.c.data.toList
  have z2 := cmp_zero b.c.data.toList c.c.data.toList
  have z3 := cmp_zero a.c.data.toList c.c.data.toList
  have i1 := cmpI a.v b.v
  have i2 := cmpI b.v c.v
  have i3 := cmpI a.v c.v
  have j1 := cmpI a.i b.i
  have j2 := cmpI b.i c.i
  have j3 := cmpI a.i c.i
  unfold cpE at h1 h2 ⊢
  by_cases p1 : a.v = b.v
  · by_cases p2 : b.v = c.v
    · rw [if_pos p1] at h1
      rw [if_pos p2] at h2
      rw [if_pos p1, if_pos p2, if_pos (p1.trans p2)]
      by_cases q1 : Lib.compareBytes a.c.data.toList b.c.data.toList = 0
      · by_cases q2 : Lib.compareBytes b.c.data.toList c.c.data.toList = 0
        · rw [if_pos q1] at h1
          rw [if_pos q2] at h2
          rw [if_pos q1, if_pos q2, if_pos (z3.2 ((z1.1 q1).trans (z2.1 q2)))]
          omega
        · rw [if_neg q2] at h2
          rw [if_pos q1] at h1
          have q3 : Lib.compareBytes a.c.data.toList c.c.data.toList ≠ 0 := fun e => q2 ((tr (by omega) h2).2 e).2
          rw [if_neg q3]
          have := (tr (by omega) h2).1
          exact ⟨this, fun e => absurd e q3⟩
      · rw [if_neg q1] at h1
        have h2' : Lib.compareBytes b.c.data.toList c.c.data.toList ≤ 0 := by
          by_cases q2 : Lib.compareBytes b.c.data.toList c.c.data.toList = 0
          · omega
          · rw [if_neg q2] at h2; exact h2
        have q3 : Lib.compareBytes a.c.data.toList c.c.data.toList ≠ 0 := fun e => q1 ((tr h1 h2').2 e).1
        rw [if_neg q3]
        exact ⟨(tr h1 h2').1, fun e => absurd e q3⟩
    · rw [if_neg p2] at h2
      rw [if_neg (fun e => p2 (p1.symm.trans e))]
      have : a.v < c.v := by have := i2; omega
      exact ⟨by omega, fun e => by omega⟩
  · rw [if_neg p1] at h1
    have hlt : a.v < b.v := by omega
    have hle : b.v ≤ c.v := by
      by_cases p2 : b.v = c.v
      · omega
      · rw [if_neg p2] at h2; omega
    rw [if_neg (show ¬ a.v = c.v by omega)]
    exact ⟨by omega, fun e => by omega⟩
/-- Entries that rise. -/
def Up (l : List En) : Prop := l.Pairwise fun a b => cpE a b < 0
theorem cpE_lt {a b c : En} (h1 : cpE a b < 0) (h2 : cpE b c < 0) : cpE a c < 0 := by
  have := cpE_tr a b c (by omega) (by omega)
  omega
theorem cpE_lt_le {a b c : En} (h1 : cpE a b < 0) (h2 : cpE b c ≤ 0) : cpE a c < 0 := by
  have := cpE_tr a b c (by omega) h2
  omega
theorem lsE_up {h : Hd} : ∀ (l : List En) (p : Option En), lsE h p l = 0 → Up l ∧ ∀ q, p = some q → ∀ e ∈ l, cpE q e < 0
  | [], p, _ => ⟨List.Pairwise.nil, fun _ _ e he => by cases he⟩
  | x :: l, p, h0 => by
    rw [lsE] at h0
    split at h0
    · split at h0
      · rename_i hs
        obtain ⟨u1, u2⟩ := lsE_up l (some x) h0
        have hx := u2 x rfl
        refine ⟨List.pairwise_cons.2 ⟨hx, u1⟩, fun q hq e he => ?_⟩
        subst hq
        have hqx : cpE q x < 0 := (cpE_ls q x).2 hs
        rcases List.mem_cons.1 he with rfl | he
        · exact hqx
        · exact cpE_lt hqx (hx e he)
      · simp at h0
    · rename_i hx
      exact absurd h0 hx
theorem bdE_up {h : Hd} {l : List En} (e : bdE h l = 0) : Up l := (lsE_up l none (bdE_ok e).2.2.1).1
/-- How many of a list do not stand behind a place. -/
def rF (ix : List En) (p : En) : Nat := (ix.takeWhile fun e => decide (¬ 0 < cpE e p)).length
theorem rF_le (ix : List En) (p : En) : rF ix p ≤ ix.length := (List.takeWhile_sublist _).length_le
theorem Up.get {l : List En} (h : Up l) {i j : Nat} (hi : i < l.length) (hj : j < l.length) (hij : i < j) : cpE l[i] l[j] < 0 := List.pairwise_iff_getElem.1 h i j hi hj hij
/-- It is where it turns. -/
theorem rF_at {ix : List En} (h : Up ix) (p : En) (r : Nat) (hr : r ≤ ix.length) (h1 : ∀ (hh : r - 1 < ix.length), 0 < r → ¬ 0 < cpE ix[r - 1] p) (h2 : ∀ (hh : r < ix.length), 0 < cpE ix[r] p) : rF ix p = r := by
  have hlow : ∀ i (hi : i < ix.length), i < r → ¬ 0 < cpE ix[i] p := fun i hi hir h0 => by
    by_cases e : i = r - 1
    · subst e; exact h1 hi (by omega) h0
    · have a := h.get hi (show r - 1 < ix.length by omega) (by omega)
      have b := h1 (by omega) (by omega)
      have := cpE_lt_le a (show cpE ix[r - 1] p ≤ 0 by omega)
      omega
  unfold rF
  have key : ∀ (l : List En) (k : Nat), k ≤ l.length → (∀ i (hi : i < l.length), i < k → ¬ 0 < cpE l[i] p) → (∀ (hh : k < l.length), 0 < cpE l[k] p) → (l.takeWhile fun e => decide (¬ 0 < cpE e p)).length = k := by
    intro l
    induction l with
    | nil => intro k hk _ _; simp at hk ⊢; omega
    | cons x l ih =>
      intro k hk a b
      cases k with
      | zero =>
        have := b (by simp)
        simp at this
        rw [List.takeWhile_cons]
        simp [this]
      | succ k =>
        have := a 0 (by simp) (by omega)
        simp at this
        rw [List.takeWhile_cons]
        have h3 := ih k (by simpa using hk) (fun i hi hik => by
          have := a (i + 1) (by simpa using hi) (by omega)
          simpa using this) (fun hh => by
          have := b (by simpa using hh)
          simpa using this)
        have e1 : decide (¬ 0 < cpE x p) = true := by simp; omega
        rw [if_pos e1, List.length_cons, h3]
  exact key ix r hr (fun i hi hir => hlow i hi hir) h2
end Go.Proofs.YtjdpolhjbkpnlaaGreatDoor
