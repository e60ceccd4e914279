/-
  DERIVED. One call of the law's.
-/
import Derived.Test.YtnnbcdfpbdmgdaaDoorTLaw0
set_option linter.unusedVariables false
set_option linter.unusedSimpArgs false
namespace Go.Proofs.YtnnbcdfpbdmgdaaDoor
open Go.RowKit Go.Maps Go.Sort Go.Proofs.BitMath Go.Proofs.TreeMath
def gotV (y : Bool) (e : Int) (v : Value) (a b c d : Int) : Value := .agg #[.bool y, .int .i64 e, v, .int .i64 a, .int .i64 b, .int .i64 c, .int .i64 d]
abbrev nilS : Value := .slice none 0 0
abbrev opV (K : Int) (s : ByteArray) (N : Int) : Value := .agg #[.int .i64 K, .string s, .int .i64 N]
/-- What a call answers. -/
def DoC {n : Nat} (W1 w1 : World) (t wd : Nat) (T : List (Nd (Cd n))) (bs : List Nat) (ms : List (Option Nat)) (x : Num) (K : Int) (s : ByteArray) (N : Int) (r : Ending) : Prop :=
  (K = 1 ∧ ∃ y e, r = .returned (gotV y e nilS 0 0 0 0) ∧ AddO W1 t wd T bs ms x s (.returned (.tuple #[.bool y, .int .i64 e])) w1) ∨
   (K = 2 ∧ ∃ y, r = .returned (gotV y 0 nilS 0 0 0 0) ∧ DropO W1 t wd T bs ms x s (.returned (.bool y)) w1) ∨
   (K = 3 ∧ ∃ y, r = .returned (gotV y 0 nilS 0 0 0 0) ∧ Below W1.heap.size W1 w1 ∧ (y = true ↔ ∃ c ∈ lives T, c.1 = s)) ∨
   (K = 4 ∧ ∃ v e d, r = .returned (gotV false e v 0 0 0 d) ∧ WithO W1 t wd T bs ms x s N (.returned (.tuple #[v, .int .i64 e])) w1 ∧ ∃ x2, TR w1 t wd T bs ms x2 ∧ x2.looked = d) ∨
   (K = 5 ∧ ∃ v e d, r = .returned (gotV false e v 0 0 0 d) ∧ NearO W1 t wd T bs ms x s N (.returned (.tuple #[v, .int .i64 e])) w1 ∧ ∃ x2, TR w1 t wd T bs ms x2 ∧ x2.looked = d) ∨
   (¬ (1 ≤ K ∧ K ≤ 5) ∧ ∃ a b c d : Int, r = .returned (gotV false 0 nilS a b c d) ∧ Below W1.heap.size W1 w1 ∧ ((K = 6 ∧ a = x.live ∧ b = T.length ∧ c = x.dep ∧ d = x.looked) ∨ (K ≠ 6 ∧ a = 0 ∧ b = 0 ∧ c = 0 ∧ d = 0)))
def DoO {n : Nat} (W : World) (t wd : Nat) (T : List (Nd (Cd n))) (bs : List Nat) (ms : List (Option Nat)) (x : Num) (K : Int) (s : ByteArray) (N : Int) (r : Ending) (W' : World) : Prop :=
  ∃ W1 w1 gb, Below W.heap.size W W1 ∧ TR W1 t wd T bs ms x ∧ W.heap.size ≤ gb ∧ gb < W1.heap.size ∧ DoC W1 w1 t wd T bs ms x K s N r ∧ Stay (fun k => k = gb) w1 W'
abbrev zGot : Array Value := #[.bool false, .int .i64 0, .slice none 0 0, .int .i64 0, .int .i64 0, .int .i64 0, .int .i64 0]
theorem box7 {w : World} {gb : Nat} (h : w.heap[gb]? = some (.cells zGot 42 (0, 0))) : w.cell? ⟨gb, 0, none⟩ = some (.bool false) ∧ w.cell? ⟨gb, 1, none⟩ = some (.int .i64 0) ∧ w.cell? ⟨gb, 2, none⟩ = some (.slice none 0 0) ∧ w.cell? ⟨gb, 3, none⟩ = some (.int .i64 0) ∧ w.cell? ⟨gb, 4, none⟩ = some (.int .i64 0) ∧ w.cell? ⟨gb, 5, none⟩ = some (.int .i64 0) ∧ w.cell? ⟨gb, 6, none⟩ = some (.int .i64 0) ∧ ∀ j, w.frozen? ⟨gb, j, none⟩ = false := by
  refine ⟨?_, ?_, ?_, ?_, ?_, ?_, ?_, fun j => ?_⟩ <;> simp [World.cell?, World.frozen?, h]
theorem st7 (w : World) (gb : Nat) (v0 v1 v2 v3 v4 v5 v6 : Value) : Stay (fun k => k = gb) w (((((((w.setCell ⟨gb, 0, none⟩ v0).setCell ⟨gb, 1, none⟩ v1).setCell ⟨gb, 2, none⟩ v2).setCell ⟨gb, 3, none⟩ v3).setCell ⟨gb, 4, none⟩ v4).setCell ⟨gb, 5, none⟩ v5).setCell ⟨gb, 6, none⟩ v6) :=
  Stay.setCell (F := fun k => k = gb) (Stay.setCell (F := fun k => k = gb) (Stay.setCell (F := fun k => k = gb) (Stay.setCell (F := fun k => k = gb) (Stay.setCell (F := fun k => k = gb) (Stay.setCell (F := fun k => k = gb) (Stay.setCell (F := fun k => k = gb) (Stay.refl _ w) (fun _ => rfl) _) (fun _ => rfl) _) (fun _ => rfl) _) (fun _ => rfl) _) (fun _ => rfl) _) (fun _ => rfl) _) (fun _ => rfl) _
abbrev put7 (w : World) (gb : Nat) (v0 v1 v2 v3 v4 v5 v6 : Value) : World := ((((((w.setCell ⟨gb, 0, none⟩ v0).setCell ⟨gb, 1, none⟩ v1).setCell ⟨gb, 2, none⟩ v2).setCell ⟨gb, 3, none⟩ v3).setCell ⟨gb, 4, none⟩ v4).setCell ⟨gb, 5, none⟩ v5).setCell ⟨gb, 6, none⟩ v6
theorem rd7 {w : World} {gb : Nat} (h : w.heap[gb]? = some (.cells zGot 42 (0, 0))) (v0 v1 v2 v3 v4 v5 v6 : Value) : (put7 w gb v0 v1 v2 v3 v4 v5 v6).cell? ⟨gb, 0, none⟩ = some v0 ∧ (put7 w gb v0 v1 v2 v3 v4 v5 v6).cell? ⟨gb, 1, none⟩ = some v1 ∧ (put7 w gb v0 v1 v2 v3 v4 v5 v6).cell? ⟨gb, 2, none⟩ = some v2 ∧ (put7 w gb v0 v1 v2 v3 v4 v5 v6).cell? ⟨gb, 3, none⟩ = some v3 ∧ (put7 w gb v0 v1 v2 v3 v4 v5 v6).cell? ⟨gb, 4, none⟩ = some v4 ∧ (put7 w gb v0 v1 v2 v3 v4 v5 v6).cell? ⟨gb, 5, none⟩ = some v5 ∧ (put7 w gb v0 v1 v2 v3 v4 v5 v6).cell? ⟨gb, 6, none⟩ = some v6 := by
  have hh : (put7 w gb v0 v1 v2 v3 v4 v5 v6).heap[gb]? = some (.cells #[v0, v1, v2, v3, v4, v5, v6] 42 (0, 0)) :=
    setCell_at (setCell_at (setCell_at (setCell_at (setCell_at (setCell_at (setCell_at h v0) v1) v2) v3) v4) v5) v6
  refine ⟨?_, ?_, ?_, ?_, ?_, ?_, ?_⟩ <;> simp only [World.cell?, hh] <;> rfl
set_option maxHeartbeats 4000000 in
set_option maxRecDepth 100000 in
theorem do_any {n t wd : Nat} {T : List (Nd (Cd n))} {bs : List Nat} {ms : List (Option Nat)} {x : Num} (K : Int) (s : ByteArray) (N : Int) (W : World) (h : TR W t wd T bs ms x) (ht : Tab W) (htp : 0 < t) (hsm : T.length < 1099511627776) :
    Calls Tryd.prog 20 #[.pointer (some ⟨t, 0, none⟩), opV K s N] W (DoO W t wd T bs ms x K s N) := by
  have hW0 : 0 < W.heap.size := World.block_lt_of_cell? W ⟨0, 0, none⟩ (ht 0 (by omega))
  have htl : t < W.heap.size := h.lt (.inl rfl)
  have hft : ∀ k, TFoot t bs ms k → k < W.heap.size := fun k hk => h.lt hk
  obtain ⟨W1, hW1⟩ : ∃ W1, W1 = (W.alloc (.cells #[.int .i64 K, .string s, .int .i64 N] 40)).alloc (.cells zGot 42) := ⟨_, rfl⟩
  have b1 : Below W.heap.size W W1 := by rw [hW1]; exact ((Below.refl _ W).alloc (Nat.le_refl _) _).alloc (by simp) _
  have hsz : W1.heap.size = W.heap.size + 2 := by rw [hW1]; simp
  have hgb : W1.heap[W.heap.size + 1]? = some (.cells zGot 42 (0, 0)) := by
    rw [hW1, show W.heap.size + 1 = (W.alloc (.cells #[.int .i64 K, .string s, .int .i64 N] 40)).heap.size by simp]
    exact Array.getElem?_push_size
  have h1 := h.below b1
  have ht1 := ht.below b1 hW0
  have hs1 : 0 < W1.heap.size := by omega
  have HT := Hid.mk (And.intro h1 (And.intro ht1 (And.intro b1 (And.intro hsz hgb))))
  have mv : ∀ (w' : World) (T' : List (Nd (Cd n))), Moved W1 w' t wd T' bs ms x → w'.heap[W.heap.size + 1]? = some (.cells zGot 42 (0, 0)) := fun w' T' m =>
    (m.stay.block _ (by omega) (fun e => by have := hft _ e; omega)).trans hgb
  have sv : ∀ (w' : World) (k b0 nv : Nat) (q : Cd n) (v : Value), Srch W1 w' t wd T bs ms x k b0 q v nv → w'.heap[W.heap.size + 1]? = some (.cells zGot 42 (0, 0)) := fun w' k b0 nv q v m =>
    (m.st.block _ (by omega) (fun e => by rcases e with e | e <;> omega)).trans hgb
  have bv : ∀ (w' : World), Below W1.heap.size W1 w' → w'.heap[W.heap.size + 1]? = some (.cells zGot 42 (0, 0)) := fun w' b => (b.block _ (by omega)).trans hgb
  have MV := Hid.mk (And.intro mv (And.intro sv bv))
  have fin : ∀ (r : Ending) (w1 W' : World), DoC W1 w1 t wd T bs ms x K s N r → Stay (fun k => k = W.heap.size + 1) w1 W' → DoO W t wd T bs ms x K s N r W' := fun r w1 W' hc hst => ⟨W1, w1, W.heap.size + 1, b1, h1, by omega, by omega, hc, hst⟩
  have FN := Hid.mk fin
  have HL := Hid.mk (And.intro (looked_any W1 h1) (And.intro (len_any W1 h1) (And.intro (nodes_any W1 h1) (depth_any W1 h1))))
  clear h ht b1 h1 ht1 hgb hsz mv sv bv fin
  by_cases k1 : K = 1
  · subst k1
    have HC := Hid.mk (add_any s W1 HT.out.1 HT.out.2.1 hs1 hsm)
    go_enter Tryd.func20, Tryd.ntmps20
    go_wp2_with fail
    rw [← hW1]
    refine HC.out.mono ?_
    rintro r w' ho
    obtain ⟨⟨y, e, rfl⟩, hbx⟩ : (∃ y e, r = .returned (.tuple #[.bool y, .int .i64 e])) ∧ w'.heap[W.heap.size + 1]? = some (.cells zGot 42 (0, 0)) := by
      rcases ho with ⟨-, h2, h3⟩ | ⟨hs, (⟨-, h2, h3⟩ | ⟨j, nd, -, -, (⟨-, h2, h3⟩ | ⟨-, h2, h3⟩)⟩)⟩ <;> exact ⟨⟨_, _, h2⟩, MV.out.1 _ _ h3⟩
    obtain ⟨c0, c1, c2, c3, c4, c5, c6, cf⟩ := box7 hbx
    have HO := Hid.mk ho
    have HB := Hid.mk hbx
    clear ho hbx
    go_wp2_with fail
    obtain ⟨f0, f1, f2, f3, f4, f5, f6⟩ := rd7 HB.out (.bool y) (.int .i64 e) nilS (.int .i64 0) (.int .i64 0) (.int .i64 0) (.int .i64 0)
    refine bodyPost_ret (v := .agg #[(.bool y), (.int .i64 e), nilS, (.int .i64 0), (.int .i64 0), (.int .i64 0), (.int .i64 0)]) (by simp [results, Tryd.results20, go_sem, f0, f1, f2, f3, f4, f5, f6]; try rfl) rfl ?_
    exact FN.out _ _ _ (.inl ⟨rfl, y, e, rfl, HO.out⟩) (st7 w' _ _ _ _ _ _ _ _)
  by_cases k2 : K = 2
  · subst k2
    have HC := Hid.mk (drop_all s W1 HT.out.1 HT.out.2.1 htp)
    go_enter Tryd.func20, Tryd.ntmps20
    go_wp2_with fail
    rw [← hW1]
    refine HC.out.mono ?_
    rintro r w' ho
    obtain ⟨⟨y, rfl⟩, hbx⟩ : (∃ y, r = .returned (.bool y)) ∧ w'.heap[W.heap.size + 1]? = some (.cells zGot 42 (0, 0)) := by
      rcases ho with ⟨-, h2, h3⟩ | ⟨j, nd, -, -, -, h2, (⟨-, h3⟩ | ⟨-, cs, -, -, h3⟩)⟩ <;> exact ⟨⟨_, h2⟩, MV.out.1 _ _ h3⟩
    obtain ⟨c0, c1, c2, c3, c4, c5, c6, cf⟩ := box7 hbx
    have HO := Hid.mk ho
    have HB := Hid.mk hbx
    clear ho hbx
    go_wp2_with fail
    obtain ⟨f0, f1, f2, f3, f4, f5, f6⟩ := rd7 HB.out (.bool y) (.int .i64 0) nilS (.int .i64 0) (.int .i64 0) (.int .i64 0) (.int .i64 0)
    refine bodyPost_ret (v := .agg #[(.bool y), (.int .i64 0), nilS, (.int .i64 0), (.int .i64 0), (.int .i64 0), (.int .i64 0)]) (by simp [results, Tryd.results20, go_sem, f0, f1, f2, f3, f4, f5, f6]; try rfl) rfl ?_
    exact FN.out _ _ _ (.inr (.inl ⟨rfl, y, rfl, HO.out⟩)) (st7 w' _ _ _ _ _ _ _ _)
  by_cases k3 : K = 3
  · subst k3
    have HC := Hid.mk (has_any s W1 HT.out.1 HT.out.2.1 hs1)
    go_enter Tryd.func20, Tryd.ntmps20
    go_wp2_with fail
    rw [← hW1]
    refine HC.out.mono ?_
    rintro r w' ⟨hb, y, rfl, hy⟩
    obtain ⟨c0, c1, c2, c3, c4, c5, c6, cf⟩ := box7 (MV.out.2.2 _ hb)
    have HB := Hid.mk (MV.out.2.2 _ hb)
    have HO := Hid.mk (And.intro hb hy)
    clear hb hy
    go_wp2_with fail
    obtain ⟨f0, f1, f2, f3, f4, f5, f6⟩ := rd7 HB.out (.bool y) (.int .i64 0) nilS (.int .i64 0) (.int .i64 0) (.int .i64 0) (.int .i64 0)
    refine bodyPost_ret (v := .agg #[(.bool y), (.int .i64 0), nilS, (.int .i64 0), (.int .i64 0), (.int .i64 0), (.int .i64 0)]) (by simp [results, Tryd.results20, go_sem, f0, f1, f2, f3, f4, f5, f6]; try rfl) rfl ?_
    exact FN.out _ _ _ (.inr (.inr (.inl ⟨rfl, y, rfl, HO.out.1, HO.out.2⟩))) (st7 w' _ _ _ _ _ _ _ _)
  by_cases k4 : K = 4
  · subst k4
    have HC := Hid.mk (within_any s N W1 HT.out.1 HT.out.2.1 htp hsm)
    go_enter Tryd.func20, Tryd.ntmps20
    go_wp2_with fail
    rw [← hW1]
    refine HC.out.mono ?_
    rintro r w' ho
    obtain ⟨⟨v, e, rfl⟩, hbx, x2, htr⟩ : (∃ v e, r = .returned (.tuple #[v, .int .i64 e])) ∧ w'.heap[W.heap.size + 1]? = some (.cells zGot 42 (0, 0)) ∧ ∃ x2, TR w' t wd T bs ms x2 := by
      rcases ho with ⟨-, h2, h3⟩ | ⟨-, -, h2, h3⟩ | ⟨hs, v, nv, -, -, h2, h3⟩
      · exact ⟨⟨_, _, h2⟩, MV.out.2.2 _ h3, _, HT.out.1.below h3⟩
      · exact ⟨⟨_, _, h2⟩, MV.out.2.2 _ h3, _, HT.out.1.below h3⟩
      · exact ⟨⟨_, _, h2⟩, MV.out.2.1 _ _ _ _ _ _ h3, _, h3.tr⟩
    obtain ⟨va, vl, vc, rfl⟩ : ∃ va vl vc, v = .slice va vl vc := by
      rcases ho with ⟨-, h2, h3⟩ | ⟨-, -, h2, h3⟩ | ⟨hs, v, nv, -, -, h2, h3⟩
      · cases h2; exact ⟨_, _, _, rfl⟩
      · cases h2; exact ⟨_, _, _, rfl⟩
      · cases h2
        obtain ⟨a, c, e, -⟩ := slice_form h3.row
        exact ⟨_, _, _, e⟩
    obtain ⟨c0, c1, c2, c3, c4, c5, c6, cf⟩ := box7 hbx
    have hlk := looked_any w' htr
    have HO := Hid.mk ho
    have HB := Hid.mk hbx
    have HX := Hid.mk htr
    clear ho hbx htr
    go_wp2_with (go_at_call 19; refine hlk.mono ?_; rintro e' w2 ⟨rfl, rfl⟩)
    obtain ⟨f0, f1, f2, f3, f4, f5, f6⟩ := rd7 HB.out (.bool false) (.int .i64 e) (.slice va vl vc) (.int .i64 0) (.int .i64 0) (.int .i64 0) (.int .i64 x2.looked)
    refine bodyPost_ret (v := .agg #[(.bool false), (.int .i64 e), (.slice va vl vc), (.int .i64 0), (.int .i64 0), (.int .i64 0), (.int .i64 x2.looked)]) (by simp [results, Tryd.results20, go_sem, f0, f1, f2, f3, f4, f5, f6]; try rfl) rfl ?_
    exact FN.out _ _ _ (.inr (.inr (.inr (.inl ⟨rfl, _, e, _, rfl, HO.out, x2, HX.out, rfl⟩)))) (st7 _ _ _ _ _ _ _ _ _)
  by_cases k5 : K = 5
  · subst k5
    have HC := Hid.mk (nearest_any s N W1 HT.out.1 HT.out.2.1 htp hsm)
    go_enter Tryd.func20, Tryd.ntmps20
    go_wp2_with fail
    rw [← hW1]
    refine HC.out.mono ?_
    rintro r w' ho
    obtain ⟨⟨v, e, rfl⟩, hbx, x2, htr⟩ : (∃ v e, r = .returned (.tuple #[v, .int .i64 e])) ∧ w'.heap[W.heap.size + 1]? = some (.cells zGot 42 (0, 0)) ∧ ∃ x2, TR w' t wd T bs ms x2 := by
      rcases ho with ⟨-, h2, h3⟩ | ⟨-, -, h2, h3⟩ | ⟨-, -, h2, h3⟩ | ⟨hs, v, nv, -, -, h2, h3⟩
      · exact ⟨⟨_, _, h2⟩, MV.out.2.2 _ h3, _, HT.out.1.below h3⟩
      · exact ⟨⟨_, _, h2⟩, MV.out.2.2 _ h3, _, HT.out.1.below h3⟩
      · exact ⟨⟨_, _, h2⟩, MV.out.2.2 _ h3, _, HT.out.1.below h3⟩
      · exact ⟨⟨_, _, h2⟩, MV.out.2.1 _ _ _ _ _ _ h3, _, h3.tr⟩
    obtain ⟨va, vl, vc, rfl⟩ : ∃ va vl vc, v = .slice va vl vc := by
      rcases ho with ⟨-, h2, h3⟩ | ⟨-, -, h2, h3⟩ | ⟨-, -, h2, h3⟩ | ⟨hs, v, nv, -, -, h2, h3⟩
      · cases h2; exact ⟨_, _, _, rfl⟩
      · cases h2; exact ⟨_, _, _, rfl⟩
      · cases h2; exact ⟨_, _, _, rfl⟩
      · cases h2
        obtain ⟨a, c, e, -⟩ := slice_form h3.row
        exact ⟨_, _, _, e⟩
    obtain ⟨c0, c1, c2, c3, c4, c5, c6, cf⟩ := box7 hbx
    have hlk := looked_any w' htr
    have HO := Hid.mk ho
    have HB := Hid.mk hbx
    have HX := Hid.mk htr
    clear ho hbx htr
    go_wp2_with (go_at_call 19; refine hlk.mono ?_; rintro e' w2 ⟨rfl, rfl⟩)
    obtain ⟨f0, f1, f2, f3, f4, f5, f6⟩ := rd7 HB.out (.bool false) (.int .i64 e) (.slice va vl vc) (.int .i64 0) (.int .i64 0) (.int .i64 0) (.int .i64 x2.looked)
    refine bodyPost_ret (v := .agg #[(.bool false), (.int .i64 e), (.slice va vl vc), (.int .i64 0), (.int .i64 0), (.int .i64 0), (.int .i64 x2.looked)]) (by simp [results, Tryd.results20, go_sem, f0, f1, f2, f3, f4, f5, f6]; try rfl) rfl ?_
    exact FN.out _ _ _ (.inr (.inr (.inr (.inr (.inl ⟨rfl, _, e, _, rfl, HO.out, x2, HX.out, rfl⟩))))) (st7 _ _ _ _ _ _ _ _ _)
  by_cases k6 : K = 6
  · subst k6
    obtain ⟨c0, c1, c2, c3, c4, c5, c6, cf⟩ := box7 (MV.out.2.2 _ (Below.refl _ _))
    have HB := Hid.mk (MV.out.2.2 _ (Below.refl _ _))
    go_enter Tryd.func20, Tryd.ntmps20
    go_wp2_with fail
    rw [← hW1]
    clear hW1
    refine HL.out.2.1.mono ?_
    rintro e w2 ⟨rfl, rfl⟩
    go_wp2_with fail
    refine HL.out.2.2.1.mono ?_
    rintro e w3 ⟨rfl, b3⟩
    have hd3 := depth_any w3 (HT.out.1.below b3)
    have hl3 := looked_any w3 (HT.out.1.below b3)
    have HB3 := Hid.mk (And.intro b3 (MV.out.2.2 _ b3))
    clear c0 c1 c2 c3 c4 c5 c6 cf b3
    obtain ⟨c0, c1, c2, c3, c4, c5, c6, cf⟩ := box7 HB3.out.2
    go_wp2_with fail
    refine hd3.mono ?_
    rintro e w4 ⟨rfl, rfl⟩
    go_wp2_with fail
    refine hl3.mono ?_
    rintro e w5 ⟨rfl, rfl⟩
    go_wp2_with fail
    obtain ⟨f0, f1, f2, f3, f4, f5, f6⟩ := rd7 HB3.out.2 (.bool false) (.int .i64 0) nilS (.int .i64 x.live) (.int .i64 (T.length : Nat)) (.int .i64 x.dep) (.int .i64 x.looked)
    refine bodyPost_ret (v := .agg #[(.bool false), (.int .i64 0), nilS, (.int .i64 x.live), (.int .i64 (T.length : Nat)), (.int .i64 x.dep), (.int .i64 x.looked)]) (by simp [results, Tryd.results20, go_sem, f0, f1, f2, f3, f4, f5, f6]; try rfl) rfl ?_
    exact FN.out _ _ _ (.inr (.inr (.inr (.inr (.inr ⟨by omega, _, _, _, _, rfl, HB3.out.1, .inl ⟨rfl, rfl, rfl, rfl, rfl⟩⟩))))) (st7 _ _ _ _ _ _ _ _ _)
  · have e1 : (K == 1) = false := by simpa using k1
    have e2 : (K == 2) = false := by simpa using k2
    have e3 : (K == 3) = false := by simpa using k3
    have e4 : (K == 4) = false := by simpa using k4
    have e5 : (K == 5) = false := by simpa using k5
    have e6 : (K == 6) = false := by simpa using k6
    have HK := Hid.mk (show ¬ (1 ≤ K ∧ K ≤ 5) by omega)
    have HK6 := Hid.mk k6
    clear k1 k2 k3 k4 k5 k6
    go_enter Tryd.func20, Tryd.ntmps20
    go_wp2_with fail
    rw [← hW1]
    obtain ⟨c0, c1, c2, c3, c4, c5, c6, cf⟩ := box7 (MV.out.2.2 _ (Below.refl _ _))
    refine bodyPost_ret (v := gotV false 0 nilS 0 0 0 0) (by simp [gotV, results, Tryd.results20, go_sem, c0, c1, c2, c3, c4, c5, c6]; try rfl) rfl ?_
    exact FN.out _ _ _ (.inr (.inr (.inr (.inr (.inr ⟨HK.out, _, _, _, _, rfl, Below.refl _ _, .inr ⟨HK6.out, rfl, rfl, rfl, rfl⟩⟩))))) (.refl _ _)
end Go.Proofs.YtnnbcdfpbdmgdaaDoor
