/-
  DERIVED. BLs0, BLs1, BLs1b, as one text.
-/
import Derived.Test.YtjdpolhjbkpnlaaGreatDoorLzAX
set_option linter.unusedVariables false
set_option linter.unusedSimpArgs false
namespace Go.Proofs.YtjdpolhjbkpnlaaGreatDoor.Ap
open Go.RowKit Go.Proofs.SealMath
theorem row_mono' {w : World} {B B' e sz m : Nat} {v : Value} {xs : List Value} (h : w.ownsRow B e sz v m xs) (hB : B' ≤ B) : w.ownsRow B' e sz v m xs := by
  refine ⟨h.1, ?_⟩
  rcases h.2 with h2 | ⟨g, cap, cur, h2, h3, h4⟩
  · exact .inl h2
  · exact .inr ⟨g, cap, cur, h2, Nat.le_trans hB h3, h4⟩
theorem row_from {w : World} {v : Value} {e sz m : Nat} {xs : List Value} {B : Nat} (h : w.ownsRow 0 e sz v m xs) (hB : ∀ k, v.ownBlock = some k → B ≤ k) : w.ownsRow B e sz v m xs := by
  refine ⟨h.1, ?_⟩
  rcases h.2 with h2 | ⟨g, cap, cur, h2, h3, h4⟩
  · exact .inl h2
  · exact .inr ⟨g, cap, cur, h2, hB g (by rw [h2]; rfl), h4⟩
/-- Lists that lie apart, from a block on. -/
structure LS (B : Nat) (w : World) (ss : List Value) (ns : List Nat) : Prop where
  len : ns.length = ss.length
  each : ∀ (j : Nat) (s : Value) (n : Nat), ss[j]? = some s → ns[j]? = some n → ∃ X : List En, X.length = n ∧ w.ownsRow B 38 5 s X.length (X.flatMap enC)
  apart : ∀ (j l : Nat) (s u : Value) (b : Nat), ss[j]? = some s → ss[l]? = some u → s.ownBlock = some b → u.ownBlock = some b → j = l
theorem LS.nil (B : Nat) (w : World) : LS B w [] [] := ⟨rfl, fun j s n h => by simp at h, fun j l s u b h => by simp at h⟩
theorem LS.at {B : Nat} {w : World} {ss : List Value} {ns : List Nat} (h : LS B w ss ns) {j : Nat} {u : Value} (hu : ss[j]? = some u) : ∃ X : List En, w.ownsRow B 38 5 u X.length (X.flatMap enC) := by
  have hj : j < ns.length := by rw [h.len]; exact (List.getElem?_eq_some_iff.1 hu).1
  obtain ⟨X, -, x2⟩ := h.each j u _ hu (List.getElem?_eq_getElem hj)
  exact ⟨X, x2⟩
theorem LS.old {B : Nat} {w : World} {ss : List Value} {ns : List Nat} (h : LS B w ss ns) {j : Nat} {u : Value} {b : Nat} (hu : ss[j]? = some u) (hb : u.ownBlock = some b) : B ≤ b ∧ b < w.heap.size := by
  obtain ⟨X, hX⟩ := h.at hu
  exact ⟨(hX.lt b hb).1, row_lt hX hb⟩
theorem LS.kept {B : Nat} {w w' : World} {ss : List Value} {ns : List Nat} {F : Nat → Prop} (h : LS B w ss ns) (s : Stay F w w') (h2 : ∀ (j : Nat) (u : Value) k, ss[j]? = some u → u.ownBlock = some k → ¬ F k) : LS B w' ss ns :=
  ⟨h.len, fun j u n hu hn => by
    obtain ⟨X, x1, x2⟩ := h.each j u n hu hn
    exact ⟨X, x1, row_kept x2 s (fun k hk => h2 j u k hu hk)⟩, h.apart⟩
theorem LS.am {B : Nat} {w : World} {lv : Value} {ss : List Value} {ns : List Nat} (h : LS B w ss ns) (hr : w.ownsRow B 34 1 lv ss.length ss) : AM w w lv ss ns 0 :=
  ⟨h.len, row_mono' hr (Nat.zero_le _), h.apart, fun j s n hj => by omega, fun j s n _ hs hn => by
    obtain ⟨X, h1, h2⟩ := h.each j s n hs hn
    exact ⟨X, h1, row_mono' h2 (Nat.zero_le _)⟩, .refl _ _⟩
/-- A list more. -/
theorem LS.snoc {B B' : Nat} {w : World} {ss : List Value} {ns : List Nat} (g : LS B w ss ns) {l : Value} {X : List En} (hB : B ≤ B') (hr : w.ownsRow B' 38 5 l X.length (X.flatMap enC)) (hnew : ∀ (j : Nat) (u : Value) b, ss[j]? = some u → u.ownBlock = some b → b < B') : LS B w (ss ++ [l]) (ns ++ [X.length]) := by
  refine ⟨by simp [g.len], fun j s n hs hn => ?_, fun j l' s u b hs hu hb hb' => ?_⟩
  · rcases Nat.lt_or_ge j ss.length with hlt | hge
    · rw [List.getElem?_append_left hlt] at hs
      rw [List.getElem?_append_left (by rw [g.len]; exact hlt)] at hn
      exact g.each j s n hs hn
    · have hj : j = ss.length := by have := (List.getElem?_eq_some_iff.1 hs).1; simp at this; omega
      subst hj
      rw [List.getElem?_append_right (Nat.le_refl _)] at hs
      rw [List.getElem?_append_right (by rw [g.len]; exact Nat.le_refl _)] at hn
      simp [g.len] at hs hn
      subst hs
      exact ⟨X, hn, row_mono' hr hB⟩
  · have key : ∀ (j l' : Nat) (s u : Value), (ss ++ [l])[j]? = some s → (ss ++ [l])[l']? = some u → s.ownBlock = some b → u.ownBlock = some b → j ≤ l' → j = l' := fun j l' s u hs hu hb hb' hle => by
      rcases Nat.lt_or_ge l' ss.length with hlt | hge
      · rw [List.getElem?_append_left hlt] at hu
        rw [List.getElem?_append_left (by omega)] at hs
        exact g.apart j l' s u b hs hu hb hb'
      · have hj : l' = ss.length := by have := (List.getElem?_eq_some_iff.1 hu).1; simp at this; omega
        subst hj
        rcases Nat.lt_or_ge j ss.length with hlt | hge2
        · rw [List.getElem?_append_left hlt] at hs
          rw [List.getElem?_append_right (Nat.le_refl _)] at hu
          simp at hu
          subst hu
          have h1 := hnew j s b hs hb
          have h2 := (hr.lt b hb').1
          omega
        · omega
    rcases Nat.le_total j l' with h | h
    · exact key j l' s u hs hu hb hb' h
    · exact (key l' j u s hu hs hb' hb h).symm
/-- Three lists more, in the row of lists. -/
theorem LS.more3 {B : Nat} {w : World} {a : Option Addr} {c : Nat} {ss : List Value} {ns : List Nat} {l1 l2 l3 : Value} (hrow : w.ownsRow B 34 1 (.slice a ss.length c) ss.length ss) (g : LS B w (ss ++ [l1, l2, l3]) ns) (hl : ss.length ≤ 2097152) (o1 : l1.oneCell' = true) (o2 : l2.oneCell' = true) (o3 : l3.oneCell' = true) (hB : B ≤ w.heap.size) :
    ∃ a' c' w', (Builtin.append_ #[43, 43] 43 #[.slice a ss.length c, .slice (some ⟨w.heap.size, 0, none⟩) 3 3]).run Tryz.prog (w.alloc (.cells #[l1, l2, l3] 34)) = .ok (.slice a' (ss.length + 3) c') w' ∧ w'.ownsRow B 34 1 (.slice a' (ss.length + 3) c') (ss.length + 3) (ss ++ [l1, l2, l3]) ∧ LS B w' (ss ++ [l1, l2, l3]) ns ∧ Stay (fun k => (Value.slice a ss.length c).ownBlock = some k) w w' := by
  obtain ⟨i0, hi, hz0, hz1, hz2⟩ := info_parts eH_ok.info2
  have bA : Below w.heap.size w (w.alloc (.cells #[l1, l2, l3] 34)) := (Below.refl _ w).alloc (Nat.le_refl _) _
  have h2A := row_kept hrow (F := fun _ => False) (.below bA) (fun _ _ h => h)
  obtain ⟨v', W', hap, ho, hg, -, hloc⟩ := run_append_own_at (P := Tryz.prog) (w.alloc (.cells #[l1, l2, l3] 34)) B 43 43 34 i0 _ 1 24 eH_ok.und2 hi hz0 hz1 hz2 rfl (by decide) _ ss.length _ h2A ⟨w.heap.size, 0, none⟩ 3 3 [l1, l2, l3] rfl (fun j u hu => cells_new w [l1, l2, l3] 34 j u hu) (fun u hu => by
    simp at hu
    rcases hu with rfl | rfl | rfl
    · exact o1
    · exact o2
    · exact o3) (by simp [maxLen]; omega) (by omega) (Nat.le_trans hB bA.size)
  obtain ⟨a', c', rfl, -⟩ := slice_form ho
  have st : Stay (fun k => (Value.slice a ss.length c).ownBlock = some k) (w.alloc (.cells #[l1, l2, l3] 34)) W' := .grown hg (fun k hk => hk)
  have st2 : Stay (fun k => (Value.slice a ss.length c).ownBlock = some k) w W' := (Stay.below bA).trans st
  exact ⟨a', c', W', hap, ho, g.kept st2 (fun j u k hu hk e => by
    obtain ⟨X, hX⟩ := g.at hu
    obtain ⟨c1, e1⟩ := row_block hrow e
    obtain ⟨c2, e2⟩ := row_block hX hk
    rw [e1] at e2; simp at e2), st2⟩
end Go.Proofs.YtjdpolhjbkpnlaaGreatDoor.Ap
set_option linter.unusedVariables false
set_option linter.unusedSimpArgs false
namespace Go.Proofs.YtjdpolhjbkpnlaaGreatDoor.Dx
open Go.RowKit Go.Proofs.SealMath
open Go.Proofs.YtjdpolhjbkpnlaaGreatDoor.Rb
open Go.Proofs.YtjdpolhjbkpnlaaGreatDoor.Ap (row_mono' row_from LS)
/-- A list of entries, from a block on. -/
abbrev Rw (B : Nat) (W : World) (v : Value) (L : List En) : Prop := W.ownsRow B 38 5 v L.length (L.flatMap enC)
/-- What stands between the calls. -/
structure RD (w0 W : World) (fb rb : Nat) (h : Hd) (l : List En) (bl : List (List UInt8)) (ix : List En) (bv iv lv sv : Value) (rp rr : Nat) : Prop where
  p : FA W fb h bl ix bv iv rp
  r : RF W rb h l lv sv rr
  ltp : fb < w0.heap.size
  ltr : rb < w0.heap.size
  st : Stay (fun k => k = fb ∨ k = rb) w0 W
section
variable {w0 W W' : World} {fb rb : Nat} {h : Hd} {l : List En} {bl : List (List UInt8)} {ix : List En} {bv iv lv sv : Value} {rd rp rr : Nat}
/-- What a call does, of both files. -/
abbrev SS (fb rb : Nat) : Nat → Prop := fun k => k = fb ∨ k = rb
theorem Rw.kept {B : Nat} {v : Value} {L : List En} (h : Rw B W v L) (s : Stay (SS fb rb) W W') (h1 : fb < B) (h2 : rb < B) : Rw B W' v L :=
  row_kept h s (fun k hk e => by
    have := (h.lt k hk).1
    rcases e with e | e <;> omega)
theorem RD.size (M : RD w0 W fb rb h l bl ix bv iv lv sv rp rr) : w0.heap.size ≤ W.heap.size := M.st.size
theorem RD.below (M : RD w0 W fb rb h l bl ix bv iv lv sv rp rr) (b : Below W.heap.size W W') : RD w0 W' fb rb h l bl ix bv iv lv sv rp rr ∧ Stay (SS fb rb) W W' :=
  ⟨⟨M.p.kept (.below b) (fun h => h) (fun _ _ h => h) (fun _ _ h => h), M.r.below b, M.ltp, M.ltr, M.st.andThen (F := SS fb rb) (Stay.below (F := fun _ => False) b) (fun k _ hk => hk.elim)⟩, .below b⟩
theorem RD.goP {R : Nat × List En} {r : Ending} (M : RD w0 W fb rb h l bl ix bv iv lv sv rp rr) (a : PiO fb h bl ix bv iv rp R W r W') :
    ∃ v, r = .returned v ∧ RD w0 W' fb rb h l bl ix bv iv lv sv (rp + R.1) rr ∧ Rw W.heap.size W' v R.2 ∧ Stay (SS fb rb) W W' ∧ R.1 ≤ 2097152 ∧ R.2.length ≤ 2097152 := by
  obtain ⟨v, hv, h1, h2, h3, h4, h5, h6⟩ := a
  have s : Stay (SS fb rb) W W' := h4.mono (fun k _ hk => .inl hk)
  exact ⟨v, hv, ⟨h3, M.r.aside M.p h4, M.ltp, M.ltr, M.st.andThen s (fun k _ hk => hk)⟩, row_from h1 h2, s, h5, h6⟩
theorem RD.goR {R : Nat × List En} {r : Ending} (M : RD w0 W fb rb h l bl ix bv iv lv sv rp rr) (a : FiO rb h l lv sv rr R W r W') :
    ∃ v, r = .returned v ∧ RD w0 W' fb rb h l bl ix bv iv lv sv rp (rr + R.1) ∧ Rw W.heap.size W' v R.2 ∧ Stay (SS fb rb) W W' := by
  obtain ⟨v, hv, h1, h2, h3, h4⟩ := a
  have s : Stay (SS fb rb) W W' := h4.mono (fun k _ hk => .inr hk)
  exact ⟨v, hv, ⟨p_aside M.p M.r h4, h3, M.ltp, M.ltr, M.st.andThen s (fun k _ hk => hk)⟩, row_from h1 h2, s⟩
theorem RD.allP (M : RD w0 W fb rb h l bl ix bv iv lv sv rp rr) (F : FF h l bl ix) : Calls Tryz.prog 10 #[Pt fb] W fun r w' => ∃ v, r = .returned v ∧ Rw W.heap.size w' v l ∧ Below W.heap.size W w' := by
  have hl := F.hl
  refine (all_any fb h bl ix bv iv rp W M.p F.hw ⟨by rw [F.hn]; omega, by rw [F.hn]; omega⟩ F.hs).mono ?_
  rintro r w' ⟨v, rfl, hr, hn, hb⟩
  rw [F.pts.al] at hr
  exact ⟨v, rfl, row_from hr hn, hb⟩
theorem RD.allR (M : RD w0 W fb rb h l bl ix bv iv lv sv rp rr) (F : FF h l bl ix) : Calls Tryz.prog 11 #[Pt rb] W fun r w' => ∃ v, r = .returned v ∧ Rw W.heap.size w' v l ∧ Below W.heap.size W w' := by
  have hl := F.hl
  refine (rall_any rb h l lv sv rr W M.r (by omega)).mono ?_
  rintro r w' ⟨v, rfl, hr, hn, hb⟩
  exact ⟨v, rfl, row_from hr hn, hb⟩
/-- Two rows of one list are the same. -/
theorem same_rw {v u : Value} {L : List En} {B B' : Nat} (a : Rw B W v L) (b : Rw B' W u L) (hL : L.length ≤ 2097152) : Calls Tryz.prog 9 #[v, u] W fun e w' => e = .returned (.bool true) ∧ Below W.heap.size W w' := by
  obtain ⟨a1, c1, rfl, -, La⟩ := lat_row (row_mono' a (Nat.zero_le _))
  obtain ⟨a2, c2, rfl, -, Lb⟩ := lat_row (row_mono' b (Nat.zero_le _))
  refine (same6_any L a1 a2 c1 c2 W La Lb (by omega)).mono ?_
  rintro r w' ⟨rfl, d⟩
  exact ⟨rfl, d.below _⟩
/-- The two questions of a round: what they answer. -/
def fA (l ix : List En) (q : Qn) : Nat × List En := fnD q.e.v ((Gs l).drop (rF ix ⟨q.e.v, ⟨#[]⟩, -1, 0, false⟩ - 1))
def gA (l ix : List En) (q : Qn) : Nat × List En := frD q.e q.m.toNat ((Gs l).drop (rF ix q.e - 1))
theorem RD.findP (M : RD w0 W fb rb h l bl ix bv iv lv sv rp rr) (F : FF h l bl ix) (q : Qn) (hr : rp + 2097152 ≤ 4611686018427387904) : Calls Tryz.prog 15 #[Pt fb, .int .i64 q.e.v] W (PiO fb h bl ix bv iv rp (fA l ix q) W) := pfind_any fb h l bl ix bv iv rp q.e.v W M.p F hr
theorem RD.findR (M : RD w0 W fb rb h l bl ix bv iv lv sv rp rr) (F : FF h l bl ix) (q : Qn) (hr : rr + 2097152 ≤ 4611686018427387904) : Calls Tryz.prog 17 #[Pt rb, .int .i64 q.e.v] W (FiO rb h l lv sv rr (fA l ix q) W) := rfind_any rb h l lv sv rr q.e.v ix W M.r F.hix F.pts.upix F.hne F.hl (by have := F.hl; omega) F.hGl
theorem RD.fromP (M : RD w0 W fb rb h l bl ix bv iv lv sv rp rr) (F : FF h l bl ix) (q : Qn) (hr : rp + 2097152 ≤ 4611686018427387904) : Calls Tryz.prog 16 #[Pt fb, .agg #[.int .i64 q.e.v, .string q.e.c, .int .i64 q.e.i, .int .i64 q.e.s, .bool q.e.d], .int .i64 q.m] W (PiO fb h bl ix bv iv rp (gA l ix q) W) := pfrom_any fb h l bl ix bv iv rp q.e q.m W M.p F hr
theorem RD.fromR (M : RD w0 W fb rb h l bl ix bv iv lv sv rp rr) (F : FF h l bl ix) (q : Qn) (hr : rr + 2097152 ≤ 4611686018427387904) : Calls Tryz.prog 18 #[Pt rb, .agg #[.int .i64 q.e.v, .string q.e.c, .int .i64 q.e.i, .int .i64 q.e.s, .bool q.e.d], .int .i64 q.m] W (FiO rb h l lv sv rr (gA l ix q) W) := rfrom_any rb h l lv sv rr q.e q.m ix W M.r F.hix F.pts.upix F.hne F.hl (by have := F.hl; omega) F.hGl
end
end Go.Proofs.YtjdpolhjbkpnlaaGreatDoor.Dx
set_option linter.unusedVariables false
set_option linter.unusedSimpArgs false
namespace Go.Proofs.YtjdpolhjbkpnlaaGreatDoor.Dx
open Go.RowKit Go.Proofs.SealMath
open Go.Proofs.YtjdpolhjbkpnlaaGreatDoor.Rb
open Go.Proofs.YtjdpolhjbkpnlaaGreatDoor.Ap (row_mono' row_from LS)
/-- The five questions. -/
def tq (a : Qn) : List Qn := [a, a, ⟨⟨1, ⟨#[]⟩, 0, 0, false⟩, 2⟩, ⟨⟨1, ⟨#[]⟩, 0, 0, false⟩, 2⟩, a]
abbrev arr30 (a : Qn) : Array Value := #[.int .i64 a.e.v, .string a.e.c, .int .i64 a.e.i, .int .i64 a.e.s, .bool a.e.d, .int .i64 a.m, .int .i64 a.e.v, .string a.e.c, .int .i64 a.e.i, .int .i64 a.e.s, .bool a.e.d, .int .i64 a.m, .int .i64 1, .string ⟨#[]⟩, .int .i64 0, .int .i64 0, .bool false, .int .i64 2, .int .i64 1, .string ⟨#[]⟩, .int .i64 0, .int .i64 0, .bool false, .int .i64 2, .int .i64 a.e.v, .string a.e.c, .int .i64 a.e.i, .int .i64 a.e.s, .bool a.e.d, .int .i64 a.m]
theorem turn_at {W : World} {gt : Nat} {a : Qn} (h : W.heap[gt]? = some (.cells (arr30 a) 40 (0, 0))) (i : Nat) (hi : i < (tq a).length) : W.cell? ⟨gt, i * 6, none⟩ = some (.int .i64 (tq a)[i].e.v) ∧ W.cell? ⟨gt, i * 6 + 1, none⟩ = some (.string (tq a)[i].e.c) ∧ W.cell? ⟨gt, i * 6 + 2, none⟩ = some (.int .i64 (tq a)[i].e.i) ∧ W.cell? ⟨gt, i * 6 + 3, none⟩ = some (.int .i64 (tq a)[i].e.s) ∧ W.cell? ⟨gt, i * 6 + 4, none⟩ = some (.bool (tq a)[i].e.d) ∧ W.cell? ⟨gt, i * 6 + 5, none⟩ = some (.int .i64 (tq a)[i].m) := by
  have key : ∀ j x, (qC (tq a)[i])[j]? = some x → W.cell? ⟨gt, i * 6 + j, none⟩ = some x := fun j x hx => by
    have hj : j < 6 := by have := (List.getElem?_eq_some_iff.1 hx).1; simpa [qC] using this
    have h1 := flat_at qC 6 (fun _ => rfl) (tq a) i j hi hj
    rw [hx] at h1
    have h2 : W.cell? ⟨gt, i * 6 + j, none⟩ = (arr30 a)[i * 6 + j]? := by simp [World.cell?, h]
    rw [h2]
    have h3 : (arr30 a).toList = (tq a).flatMap qC := rfl
    rw [← Array.getElem?_toList, h3]
    exact h1
  exact ⟨by simpa using key 0 _ rfl, key 1 _ rfl, key 2 _ rfl, key 3 _ rfl, key 4 _ rfl, key 5 _ rfl⟩
section
variable {w0 wr W W' w3 w4 w5 w9 : World} {fb rb : Nat} {h : Hd} {l : List En} {bl : List (List UInt8)} {ix : List En} {bv iv lv sv : Value} {rd rp rr rp0 rr0 : Nat}
/-- What is written beyond the files. -/
theorem RD.far {Fs : Nat → Prop} (M : RD w0 W fb rb h l bl ix bv iv lv sv rp rr) (p0 : BF w0 fb rb h l bl ix bv iv lv sv rp0) (s : Stay Fs W W') (hF : ∀ k, Fs k → w0.heap.size ≤ k) : RD w0 W' fb rb h l bl ix bv iv lv sv rp rr :=
  ⟨M.p.kept s (fun e => by have := hF _ e; have := M.ltp; omega) (fun k hk e => by have := hF _ e; have := row_lt p0.p.row hk; omega) (fun k hk e => by have := hF _ e; have := row_lt p0.p.idx hk; omega),
   M.r.kept s (fun e => by have := hF _ e; have := M.ltr; omega) (fun k hk e => by have := hF _ e; have := row_lt p0.r.row hk; omega) (fun k hk e => by have := hF _ e; have := row_lt p0.r.szr hk; omega), M.ltp, M.ltr,
   M.st.andThen s (fun k hk e => by have := hF _ e; omega)⟩
/-- What is neither file. -/
theorem RD.blk {k : Nat} {cur : Array Value} {t : TypeId} (M : RD w0 W fb rb h l bl ix bv iv lv sv rp rr) (p0 : BF w0 fb rb h l bl ix bv iv lv sv rp0) (hk : w0.heap[k]? = some (.cells cur t (0, 0))) (m1 : t ≠ 54) (m2 : t ≠ 67) : W.heap[k]? = some (.cells cur t (0, 0)) :=
  (M.st.block k (Array.getElem?_eq_some_iff.1 hk).1 (by
    rintro (rfl | rfl)
    · rw [p0.p.box] at hk; simp at hk; exact m1 hk.2.symm
    · rw [p0.r.box] at hk; simp at hk; exact m2 hk.2.symm)).trans hk
/-- While the five are asked. -/
structure LI (w0 wr : World) (fb rb : Nat) (h : Hd) (l : List En) (bl : List (List UInt8)) (ix : List En) (bv iv lv sv : Value) (i rd : Nat) (ov : Value) (ss : List Value) (ns : List Nat) : Prop where
  rr : RD w0 wr fb rb h l bl ix bv iv lv sv rd rd
  le : rd ≤ i * 4194304
  row : wr.ownsRow w0.heap.size 34 1 ov ss.length ss
  ls : LS w0.heap.size wr ss ns
  sl : ss.length = i * 3
  nb : ∀ n ∈ ns, n ≤ 2097152
theorem one_sl {B : Nat} {v : Value} {L : List En} (h : Rw B W v L) : v.oneCell' = true := by
  obtain ⟨a, c, rfl, -⟩ := slice_form h
  rfl
theorem LI.next {i : Nat} {a : Option Addr} {c : Nat} {ss : List Value} {ns : List Nat} {v1 v2 v3 : Value} {L1 L2 L3 : List En} {B2 B3 t : Nat} (hI : LI w0 wr fb rb h l bl ix bv iv lv sv i rd (.slice a (i * 3) c) ss ns) (p0 : BF w0 fb rb h l bl ix bv iv lv sv rp0) (hi : i < 5)
    (r1 : Rw wr.heap.size w3 v1 L1) (r2 : Rw B2 w4 v2 L2) (r3 : Rw B3 w5 v3 L3) (s3 : Stay (SS fb rb) wr w3) (s4 : Stay (SS fb rb) w3 w4) (s5 : Stay (SS fb rb) w4 w5) (s9 : Stay (SS fb rb) w5 w9) (e2 : B2 = w3.heap.size) (e3 : B3 = w4.heap.size)
    (M9 : RD w0 w9 fb rb h l bl ix bv iv lv sv (rd + t) (rd + t)) (n1 : L1.length ≤ 2097152) (n2 : L2.length ≤ 2097152) (n3 : L3.length ≤ 2097152) (ht : t ≤ 4194304) :
    ∃ a' c' w', (Builtin.append_ #[43, 43] 43 #[.slice a (i * 3) c, .slice (some ⟨w9.heap.size, 0, none⟩) 3 3]).run Tryz.prog (w9.alloc (.cells #[v1, v2, v3] 34)) = .ok (.slice a' (i * 3 + 3) c') w' ∧ ∃ ss' ns', LI w0 w' fb rb h l bl ix bv iv lv sv (i + 1) (rd + t) (.slice a' (i * 3 + 3) c') ss' ns' := by
  subst e2 e3
  have k0 := hI.rr.size
  have kp := hI.rr.ltp
  have kr := hI.rr.ltr
  have k3 := s3.size
  have k4 := s4.size
  have k5 := s5.size
  have k9 := s9.size
  have s49 : Stay (SS fb rb) w4 w9 := s5.trans s9
  have s39 : Stay (SS fb rb) w3 w9 := s4.trans s49
  have sr9 : Stay (SS fb rb) wr w9 := s3.trans s39
  have q1 : Rw wr.heap.size w9 v1 L1 := Rw.kept r1 s39 (by omega) (by omega)
  have q2 : Rw w3.heap.size w9 v2 L2 := Rw.kept r2 s49 (by omega) (by omega)
  have q3 : Rw w4.heap.size w9 v3 L3 := Rw.kept r3 s9 (by omega) (by omega)
  have g0 : LS w0.heap.size w9 ss ns := hI.ls.kept sr9 (fun j u k hu hk e => by
    have := (hI.ls.old hu hk).1
    rcases e with e | e <;> omega)
  have g1 := g0.snoc (by omega) q1 (fun j u b hu hb => (hI.ls.old hu hb).2)
  have g2 := g1.snoc (by omega) q2 (fun j u b hu hb => by
    rcases Nat.lt_or_ge j ss.length with hlt | hge
    · rw [List.getElem?_append_left hlt] at hu
      have := (hI.ls.old hu hb).2
      omega
    · rw [List.getElem?_append_right hge] at hu
      have hj : j - ss.length = 0 := by have := (List.getElem?_eq_some_iff.1 hu).1; simp at this; omega
      rw [hj] at hu
      simp at hu
      subst hu
      exact row_lt r1 hb)
  have g3 := g2.snoc (by omega) q3 (fun j u b hu hb => by
    rw [List.append_assoc] at hu
    rcases Nat.lt_or_ge j ss.length with hlt | hge
    · rw [List.getElem?_append_left hlt] at hu
      have := (hI.ls.old hu hb).2
      omega
    · rw [List.getElem?_append_right hge] at hu
      have hj := (List.getElem?_eq_some_iff.1 hu).1
      simp at hj
      match hjj : j - ss.length, hj with
      | 0, _ =>
        rw [hjj] at hu
        simp at hu
        subst hu
        have := row_lt r1 hb
        omega
      | 1, _ =>
        rw [hjj] at hu
        simp at hu
        subst hu
        exact row_lt r2 hb)
  rw [List.append_assoc, List.append_assoc] at g3
  have hsl := hI.sl
  have hrow : w9.ownsRow w0.heap.size 34 1 (.slice a (i * 3) c) ss.length ss := row_kept hI.row sr9 (fun k hk e => by
    have := (hI.row.lt k hk).1
    rcases e with e | e <;> omega)
  rw [← hsl] at hrow ⊢
  obtain ⟨a', c', w', hap, hro, hls, hst⟩ := LS.more3 hrow (l1 := v1) (l2 := v2) (l3 := v3) g3 (by omega) (one_sl r1) (one_sl r2) (one_sl r3) (by omega)
  refine ⟨a', c', w', hap, _, _, ⟨M9.far p0 hst (fun k hk => (hrow.lt k hk).1), by have := hI.le; omega, ?_, hls, by simp; omega, fun n hn => ?_⟩⟩
  · have e : (ss ++ [v1, v2, v3]).length = ss.length + 3 := by simp
    rw [e]
    exact hro
  · simp only [List.mem_append, List.mem_singleton] at hn
    rcases hn with ((hn | hn) | hn) | hn
    · exact hI.nb n hn
    · omega
    · omega
    · omega
end
end Go.Proofs.YtjdpolhjbkpnlaaGreatDoor.Dx
