/-
  DERIVED. BlockBuild: a list of the call's own, turned.
-/
import Derived.Test.YtgloigegmcglfaaDoorBLaw0
import Derived.Test.YtgloigegmcglfaaDoorBRef7
set_option linter.unusedVariables false
set_option linter.unusedSimpArgs false
namespace Go.Proofs.YtgloigegmcglfaaDoor
open Go.RowKit Go.Proofs.SealMath
/-- A row of entries of the call's own. -/
def Fw (W : World) (g cap : Nat) (X : List En) : Prop := W.ownsRow 0 40 5 (.slice (some ⟨g, 0, none⟩) X.length cap) X.length (X.flatMap enC)
theorem Fw.row {W : World} {g cap : Nat} {X : List En} (h : Fw W g cap X) : RowAt W g 0 (X.flatMap enC) := fun j x hx => by
  have hj : j < X.length * 5 := by rw [← flat_len5]; exact (List.getElem?_eq_some_iff.1 hx).1
  have := World.ownsRow.cellAt h j hj
  rw [Nat.zero_add, this, hx]
theorem Fw.cells {W : World} {g cap : Nat} {X : List En} (h : Fw W g cap X) (i : Nat) (e : En) (hi : X[i]? = some e) :
    W.cell? ⟨g, i * 5, none⟩ = some (.int .i64 e.v) ∧ W.cell? ⟨g, i * 5 + 4, none⟩ = some (.bool e.d) := by
  obtain ⟨hl, rfl⟩ := List.getElem?_eq_some_iff.1 hi
  have := row_en h.row rfl i hl
  simp only [Nat.zero_add] at this
  exact ⟨this.1, this.2.2.2.2⟩
theorem Fw.free {W : World} {g cap : Nat} {X : List En} (h : Fw W g cap X) (j : Nat) : W.frozen? ⟨g, j, none⟩ = false := World.ownsRow.frozenAt h j
theorem Fw.lt {W : World} {g cap : Nat} {X : List En} (h : Fw W g cap X) : g < W.heap.size := row_lt h rfl
theorem Fw.below {W W' : World} {g cap : Nat} {X : List En} (h : Fw W g cap X) (b : Below W.heap.size W W') : Fw W' g cap X := row_kept h (F := fun _ => False) (.below b) (fun _ _ h => h)
theorem flat_set1 (d : Bool) : ∀ (X : List En) (i : Nat) (e : En), X[i]? = some e → (X.flatMap enC).set (i * 5 + 4) (.bool d) = (X.set i { e with d := d }).flatMap enC
  | [], _, _, h => by simp at h
  | x :: X, 0, e, h => by
    simp at h
    subst h
    simp [enC]
  | x :: X, i + 1, e, h => by
    have ih := flat_set1 d X i e (by simpa using h)
    rw [List.flatMap_cons, List.set_append_right _ _ (by rw [enC_len]; omega), enC_len, List.set_cons_succ, List.flatMap_cons, ← ih]
    congr 2; omega
theorem Fw.dead {W : World} {g cap : Nat} {X : List En} (h : Fw W g cap X) (i : Nat) (e : En) (hi : X[i]? = some e) (d : Bool) : Fw (W.setCell ⟨g, i * 5 + 4, none⟩ (.bool d)) g cap (X.set i { e with d := d }) := by
  unfold Fw
  rw [List.length_set, ← flat_set1 d X i e hi]
  exact (World.ownsRow.stored h _ _).1
theorem Fw.lat {W : World} {g cap : Nat} {X Y : List En} (h : Fw W g cap (X ++ Y)) : LAt W (some ⟨g, 0, none⟩) X := ⟨fun _ => ⟨g, 0, rfl, fun j x hx => h.row j x (by
  rw [List.flatMap_append, List.getElem?_append_left (List.getElem?_eq_some_iff.1 hx).1]
  exact hx)⟩⟩
/-- An entry turned. -/
def flp (e : En) : En := { e with d := !e.d }
/-- The list, the first i turned, and the mark. -/
def Xi (l : List En) (i : Nat) : List En := (l.take i).map flp ++ (l.drop i ++ [mk9])
theorem Xi_zero (l : List En) : Xi l 0 = l ++ [mk9] := by unfold Xi; simp
theorem Xi_end (l : List En) : Xi l l.length = l.map flp ++ [mk9] := by unfold Xi; simp
theorem Xi_len (l : List En) (i : Nat) : (Xi l i).length = l.length + 1 := by unfold Xi; simp; omega
theorem Xi_at (l : List En) (i : Nat) (hi : i < l.length) : (Xi l i)[i]? = some l[i] := by
  unfold Xi
  rw [List.getElem?_append_right (by simp; omega), List.length_map, List.length_take, Nat.min_eq_left (by omega), Nat.sub_self, List.drop_eq_getElem_cons hi]
  rfl
theorem Xi_set (l : List En) (i : Nat) (hi : i < l.length) : (Xi l i).set i { l[i] with d := !l[i].d } = Xi l (i + 1) := by
  unfold Xi
  rw [List.set_append_right _ _ (by simp; omega), List.length_map, List.length_take, Nat.min_eq_left (by omega), Nat.sub_self, List.drop_eq_getElem_cons hi, List.take_succ_eq_append_getElem hi, List.map_append, List.append_assoc]
  rfl
theorem Xi_mark (l : List En) : (l ++ [mk9])[l.length]? = some mk9 := by simp
/-- What stands all through the law: the list of its own, and the head. -/
structure BS (w : World) (h : Hd) (g c : Nat) (X : List En) (W : World) : Prop where
  row : Fw W g c X
  hd : SAt W w.heap.size (hdC h)
  below : Below w.heap.size w W
  gh : w.heap.size < g
theorem BS.later {w : World} {h : Hd} {g c : Nat} {X : List En} {W W' : World} (s : BS w h g c X W) (b : Below W.heap.size W W') : BS w h g c X W' :=
  { row := s.row.below b, hd := fun j v hv => cell_lat b (s.hd j v hv), below := chain s.below b (Nat.le_refl _), gh := s.gh }
theorem BS.dead {w : World} {h : Hd} {g c : Nat} {X : List En} {W : World} (s : BS w h g c X W) (i : Nat) (e : En) (hi : X[i]? = some e) (d : Bool) : BS w h g c (X.set i { e with d := d }) (W.setCell ⟨g, i * 5 + 4, none⟩ (.bool d)) :=
  { row := s.row.dead i e hi d
    hd := fun j v hv => by rw [World.cell?_setCell_other _ _ _ _ (fun he => by cases he; exact absurd s.gh (Nat.lt_irrefl _))]; exact s.hd j v hv
    below := s.below.trans ((Stay.setCell (F := fun k => k = g) (.refl _ _) (p := ⟨g, i * 5 + 4, none⟩) (fun _ => rfl) _).toBelow (fun k hk he => by have := s.gh; omega) s.below.size)
    gh := s.gh }
theorem BS.six {w : World} {h : Hd} {g c : Nat} {X : List En} {W : World} (s : BS w h g c X W) : W.cell? ⟨w.heap.size, 0, none⟩ = some (.int .i64 h.w) ∧ W.cell? ⟨w.heap.size, 1, none⟩ = some (.int .i64 h.t) ∧ W.cell? ⟨w.heap.size, 2, none⟩ = some (.int .i64 h.b) ∧ W.cell? ⟨w.heap.size, 3, none⟩ = some (.int .i64 h.lo) ∧ W.cell? ⟨w.heap.size, 4, none⟩ = some (.int .i64 h.hi) ∧ W.cell? ⟨w.heap.size, 5, none⟩ = some (.int .i64 h.n) :=
  ⟨s.hd 0 _ rfl, s.hd 1 _ rfl, s.hd 2 _ rfl, s.hd 3 _ rfl, s.hd 4 _ rfl, s.hd 5 _ rfl⟩
theorem Fw.cap {W : World} {g cap : Nat} {X : List En} (h : Fw W g cap X) : X.length ≤ cap := by
  obtain ⟨a, c, hh, hc⟩ := slice_form h
  simp only [Value.slice.injEq] at hh
  obtain ⟨-, -, rfl⟩ := hh
  exact hc
/-- The loop that turns. -/
def RB (w : World) (h : Hd) (g c n : Nat) (l : List En) (iv : Value) (wr : World) : Prop := ∃ i : Nat, iv = .int .i64 i ∧ i ≤ n ∧ BS w h g c (Xi l i) wr
theorem RB.step {w : World} {h : Hd} {g c n : Nat} {l : List En} {i : Nat} {wr : World} (hn : n = l.length) (hi : i < n) (s : BS w h g c (Xi l i) wr) :
    ∃ d : Bool, wr.cell? ⟨g, i * 5 + 4, none⟩ = some (.bool d) ∧ wr.frozen? ⟨g, i * 5 + 4, none⟩ = false ∧ RB w h g c n l (.int .i64 ((i : Int) + 1)) (wr.setCell ⟨g, i * 5 + 4, none⟩ (.bool !d)) := by
  subst hn
  have hx := Xi_at l i hi
  refine ⟨l[i].d, (s.row.cells i _ hx).2, s.row.free _, i + 1, by rw [Int.natCast_add]; rfl, hi, ?_⟩
  rw [← Xi_set l i hi]
  exact s.dead i _ hx _
set_option maxRecDepth 10000 in
theorem wn1 {n L : Nat} (e : n = L) (h : L < 4611686018427387904) : IntKind.i64.wrap ((n : Int) + 1) = (n : Int) + 1 := by rw [IntKind.wrap_i64]; omega
theorem fw_of {W : World} {g c n : Nat} {l : List En} (e : n = l.length) (ho : W.ownsRow 0 40 5 (.slice (some ⟨g, 0, none⟩) (n + 1) c) (n + 1) ((l.map flp ++ [mk9]).flatMap enC)) : Fw W g c (l.map flp ++ [mk9]) := by
  unfold Fw
  rw [List.length_append, List.length_map, ← e]
  exact ho
set_option maxHeartbeats 4000000 in
set_option maxRecDepth 100000 in
theorem law_build (h : Hd) (l : List En) (la : Option Addr) (cap : Nat) (w : World) (ht : Tab w) (hL : LAt w la l) (hl : (l.length + 1) * 48 ≤ 140737488355328) :
    Calls Tryd.prog 7 #[.agg (hdC h).toArray, .slice la l.length cap] w fun r w' => r = .returned (.bool true) ∧ Below w.heap.size w w' := by
  have hlen : l.length < 4611686018427387904 := by omega
  have U0 := SAt.new w (hdC h) 23
  have bA : Below w.heap.size w (w.alloc (.cells (hdC h).toArray 23)) := (Below.refl _ w).alloc (Nat.le_refl _) _
  have hsz : (w.alloc (.cells (hdC h).toArray 23)).heap.size = w.heap.size + 1 := by simp
  have hc1 := twin_any l la cap (w.alloc (.cells (hdC h).toArray 23)) (hL.below bA) hl
  have hc2 := fun g c W (hW : BS w h g c (l ++ [mk9]) W) => build_any h l (some ⟨g, 0, none⟩) c W (ht.lat hW.below) hW.row.lat (by have := hW.row.cap; simp at this; omega)
  have hc3 := fun W (hW : Below w.heap.size w W) => rbuild_any h l la cap W (hL.below hW) hlen
  have hc4 := fun g c W (hW : BS w h g c (l ++ [mk9]) W) => same6_any l (some ⟨g, 0, none⟩) la c cap W hW.row.lat (hL.below hW.below) hlen
  have hd2 := fun g c W (hW : BS w h g c (l.map flp ++ [mk9]) W) => build_any h (l.map flp) (some ⟨g, 0, none⟩) c W (ht.lat hW.below) hW.row.lat (by have := hW.row.cap; simp at this ⊢; omega)
  have hd1 := fun g c W (hW : BS w h g c (l.map flp ++ [mk9]) W) => twin_any (l.map flp) (some ⟨g, 0, none⟩) c W hW.row.lat (by rw [List.length_map]; exact hl)
  have hd3 := fun g c W (hW : Fw W g c (l.map flp ++ [mk9])) => rbuild_any h (l.map flp) (some ⟨g, 0, none⟩) c W hW.lat (by rw [List.length_map]; exact hlen)
  have hd4 := fun g c W (hW : BS w h g c (l.map flp ++ [mk9]) W) g2 c2 (hW2 : Fw W g2 c2 (l.map flp ++ [mk9])) => same6_any (l.map flp) (some ⟨g, 0, none⟩) (some ⟨g2, 0, none⟩) c c2 W hW.row.lat hW2.lat (by rw [List.length_map]; exact hlen)
  simp only [List.length_map] at hd1 hd2 hd3 hd4
  have HS0 : ∀ g c W, (w.alloc (.cells (hdC h).toArray 23)).heap.size ≤ g → W.ownsRow 0 40 5 (.slice (some ⟨g, 0, none⟩) (l.length + 1) c) (l.length + 1) ((l ++ [mk9]).flatMap enC) → Below (w.alloc (.cells (hdC h).toArray 23)).heap.size (w.alloc (.cells (hdC h).toArray 23)) W → BS w h g c (l ++ [mk9]) W := fun g c W hg ho hb =>
    { row := by unfold Fw; rw [List.length_append]; exact ho
      hd := fun j v hv => cell_lat hb (U0 j v hv)
      below := chain bA hb (Nat.le_refl _)
      gh := by rw [hsz] at hg; omega }
  replace HS0 := Hid.mk HS0
  clear U0 bA hsz ht hL
  obtain ⟨S1, hS1⟩ : ∃ S, S = bdT h l := ⟨_, rfl⟩
  obtain ⟨E1, hE1⟩ : ∃ S, S = bdE h l := ⟨_, rfl⟩
  obtain ⟨S2, hS2⟩ : ∃ S, S = bdT h (l.map flp) := ⟨_, rfl⟩
  obtain ⟨E2, hE2⟩ : ∃ S, S = bdE h (l.map flp) := ⟨_, rfl⟩
  rw [← hS1, ← hE1] at hc2 hc3
  rw [← hS2, ← hE2] at hd2 hd3
  clear hS1 hE1 hS2 hE2
  obtain ⟨n, hn⟩ : ∃ n, n = l.length := ⟨_, rfl⟩
  have HN := Hid.mk (And.intro hn (And.intro hl hlen))
  rw [← hn] at hc1 hc2 hc3 hc4 hd1 hd2 hd3 hd4 ⊢
  clear hn hl hlen
  replace hc2 := Hid.mk hc2
  replace hc3 := Hid.mk hc3
  replace hc4 := Hid.mk hc4
  replace hd1 := Hid.mk hd1
  replace hd2 := Hid.mk hd2
  replace hd3 := Hid.mk hd3
  replace hd4 := Hid.mk hd4
  obtain ⟨wd, t, b, lo, hi, nn⟩ := h
  simp only [hdC] at hc1 hc2 hc3 hd2 hd3 HS0 ⊢
  go_enter Tryd.func7, Tryd.ntmps7
  go_wp2_with first
    | (go_at_call 19; refine hc1.mono ?_; clear hc1; rintro r w1 ⟨g, c1, rfl, hg1, ho1, b1⟩; rw [HN.out.1] at ho1; have s1 := HS0.out g c1 w1 hg1 ho1 b1; obtain ⟨q0, q1, q2, q3, q4, q5⟩ := s1.six; clear hg1 ho1 b1 HS0)
    | (go_at_call 10; refine (hc2.out g c1 _ s1).mono ?_; clear hc2; rintro r w2 ⟨rfl, b2⟩; have s2 := s1.later b2; clear q0 q1 q2 q3 q4 q5; obtain ⟨q0, q1, q2, q3, q4, q5⟩ := s2.six; clear b2 s1)
    | (go_at_call 20; refine (hc3.out _ s2.below).mono ?_; clear hc3; rintro r w3 ⟨rfl, b3⟩; have s3 := s2.later b3; clear q0 q1 q2 q3 q4 q5; obtain ⟨q0, q1, q2, q3, q4, q5⟩ := s3.six; clear b3 s2)
    | (go_at_call 13; refine (hc4.out g c1 _ s3).mono ?_; clear hc4; rintro r w4 ⟨rfl, d4⟩; have s4 := s3.later (d4.below _); clear q0 q1 q2 q3 q4 q5 d4 s3; have hcc : n + 1 ≤ c1 := (by have := s4.row.cap; rw [List.length_append, ← HN.out.1] at this; exact this); have hci : (n : Int) + 1 ≤ (c1 : Int) := (by omega); have hw1 : IntKind.i64.wrap ((n : Int) + 1) = (n : Int) + 1 := wn1 HN.out.1 HN.out.2.2; have hm9 := (s4.row.cells n mk9 (HN.out.1 ▸ Xi_mark l)).1; simp only [mk9] at hm9)
  have H4 := Hid.mk s4
  clear s4 hm9 hcc hci hw1
  go_loopw [11] (fun iv wr => RB w ⟨wd, t, b, lo, hi, nn⟩ g c1 n l iv wr) (fun iv _ => n - (intOf iv).toNat)
  case atStart => exact ⟨0, rfl, Nat.zero_le _, by rw [Xi_zero]; exact H4.out⟩
  case round =>
    obtain ⟨i, rfl, hin, hs⟩ := hrel
    by_cases hlt : i < n
    · obtain ⟨d, x0, x1, hR⟩ := RB.step HN.out.1 hlt hs
      have hiI : (i : Int) < (n : Int) := by omega
      have hi0 : (0 : Int) ≤ (i : Int) := by omega
      have hw1 : IntKind.i64.wrap ((i : Int) + 1) = (i : Int) + 1 := wn1 rfl (Nat.lt_of_lt_of_le hlt (Nat.le_of_lt (HN.out.1 ▸ HN.out.2.2)))
      have HR := Hid.mk hR
      clear hR hs
      go_wp2
      exact ⟨HR.out, by simp only [intOf]; omega⟩
    · have hie : n = i := by omega
      subst hie
      have s5 : BS w ⟨wd, t, b, lo, hi, nn⟩ g c1 (l.map flp ++ [mk9]) wr := by
        have := hs
        rw [HN.out.1, Xi_end] at this
        exact this
      clear hs hlt hin
      go_wp2_with first
        | (go_at_call 19; refine (hd1.out g c1 _ s5).mono ?_; clear hd1; rintro r w6 ⟨g2, c2, rfl, hg2, ho2, b2⟩; have s6 := s5.later b2; have f6 : Fw w6 g2 c2 (l.map flp ++ [mk9]) := fw_of HN.out.1 ho2; obtain ⟨q0, q1, q2, q3, q4, q5⟩ := s6.six; clear hg2 ho2 b2 s5)
        | (go_at_call 10; refine (hd2.out g c1 _ s6).mono ?_; clear hd2; rintro r w7 ⟨rfl, b7⟩; have s7 := s6.later b7; have f7 := f6.below b7; clear q0 q1 q2 q3 q4 q5; obtain ⟨q0, q1, q2, q3, q4, q5⟩ := s7.six; clear b7 s6 f6)
        | (go_at_call 20; refine (hd3.out g2 c2 _ f7).mono ?_; clear hd3; rintro r w8 ⟨rfl, b8⟩; have s8 := s7.later b8; have f8 := f7.below b8; clear q0 q1 q2 q3 q4 q5; clear b8 s7 f7)
        | (go_at_call 13; refine (hd4.out g c1 _ s8 g2 c2 f8).mono ?_; clear hd4; rintro r w9 ⟨rfl, d9⟩; have s9 := s8.later (d9.below _); clear d9 s8)
      go_ret
      exact ⟨rfl, s9.below⟩
end Go.Proofs.YtgloigegmcglfaaDoor
