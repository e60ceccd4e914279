/-
  DERIVED. BEn, BHead, BFile, as one text.
-/
import Derived.Test.YtjdpolhjbkpnlaaDoorTzAK
import Derived.Test.YtjdpolhjbkpnlaaDoorTzAE
import Derived.Test.YtjdpolhjbkpnlaaDoorTzAD
set_option linter.unusedVariables false
set_option linter.unusedSimpArgs false
namespace Go.Proofs.YtjdpolhjbkpnlaaDoor
open Go.RowKit Go.Shelf Go.Proofs.SealMath
attribute [local go_sem] Oper.semAt_some
def mE (n : Nat) (av kv : Value) : Nat := match kv with
  | .bool true => n + 2 - (intOf av).toNat
  | _ => 0
/-- An entry's cells. -/
abbrev enV (e : En) : Array Value := #[.int .i64 e.v, .string e.c, .int .i64 e.i, .int .i64 e.s, .bool e.d]
abbrev encE (e : En) : Array Value := #[.agg (enV e)]
theorem stay1 (W V : World) (g o : Nat) (u : Value) (h : Stay (fun k => k = g) W V) : Stay (fun k => k = g) W (V.setCell ⟨g, o, none⟩ u) := Stay.setCell (F := fun k => k = g) h (p := ⟨g, o, none⟩) (fun _ => rfl) u
def put5 (W : World) (a : Nat) (e : En) : World := ((((W.setCell ⟨a, 0, none⟩ (.int .i64 e.v)).setCell ⟨a, 1, none⟩ (.string e.c)).setCell ⟨a, 2, none⟩ (.int .i64 e.i)).setCell ⟨a, 3, none⟩ (.int .i64 e.s)).setCell ⟨a, 4, none⟩ (.bool e.d)
theorem put5_stay (W : World) (a : Nat) (e : En) : Stay (fun k => k = a) W (put5 W a e) := stay1 _ _ _ _ _ (stay1 _ _ _ _ _ (stay1 _ _ _ _ _ (stay1 _ _ _ _ _ (stay1 _ _ _ _ _ (.refl _ _)))))
theorem put5_at {W : World} {a : Nat} {x : En} (h : W.heap[a]? = some (.cells (enV x) 32 (0, 0))) (e : En) : (put5 W a e).heap[a]? = some (.cells (enV e) 32 (0, 0)) := by
  unfold put5
  have h1 : (W.setCell ⟨a, 0, none⟩ (.int .i64 e.v)).heap[a]? = _ := heap_setCell_same W a 0 _ _ _ h
  have h2 : ((W.setCell ⟨a, 0, none⟩ (.int .i64 e.v)).setCell ⟨a, 1, none⟩ (.string e.c)).heap[a]? = _ := heap_setCell_same _ a 1 _ _ _ h1
  have h3 : (((W.setCell ⟨a, 0, none⟩ (.int .i64 e.v)).setCell ⟨a, 1, none⟩ (.string e.c)).setCell ⟨a, 2, none⟩ (.int .i64 e.i)).heap[a]? = _ := heap_setCell_same _ a 2 _ _ _ h2
  have h4 : ((((W.setCell ⟨a, 0, none⟩ (.int .i64 e.v)).setCell ⟨a, 1, none⟩ (.string e.c)).setCell ⟨a, 2, none⟩ (.int .i64 e.i)).setCell ⟨a, 3, none⟩ (.int .i64 e.s)).heap[a]? = _ := heap_setCell_same _ a 3 _ _ _ h3
  have h5 : (((((W.setCell ⟨a, 0, none⟩ (.int .i64 e.v)).setCell ⟨a, 1, none⟩ (.string e.c)).setCell ⟨a, 2, none⟩ (.int .i64 e.i)).setCell ⟨a, 3, none⟩ (.int .i64 e.s)).setCell ⟨a, 4, none⟩ (.bool e.d)).heap[a]? = _ := heap_setCell_same _ a 4 _ _ _ h4
  exact h5
theorem en5 {W : World} {r : Nat} {e : En} (h : W.heap[r]? = some (.cells (enV e) 32 (0, 0))) : W.cell? ⟨r, 0, none⟩ = some (.int .i64 e.v) ∧ W.cell? ⟨r, 1, none⟩ = some (.string e.c) ∧ W.cell? ⟨r, 2, none⟩ = some (.int .i64 e.i) ∧ W.cell? ⟨r, 3, none⟩ = some (.int .i64 e.s) ∧ W.cell? ⟨r, 4, none⟩ = some (.bool e.d) :=
  ⟨by rw [cell_of_row _ _ 0 _ _ (0, 0) h]; rfl, by rw [cell_of_row _ _ 1 _ _ (0, 0) h]; rfl, by rw [cell_of_row _ _ 2 _ _ (0, 0) h]; rfl, by rw [cell_of_row _ _ 3 _ _ (0, 0) h]; rfl, by rw [cell_of_row _ _ 4 _ _ (0, 0) h]; rfl⟩
theorem boxc {w A : World} {b t : Nat} {v : Value} (h : w.heap[b]? = some (.cells #[v] t (0, 0))) (hA : A.heap[b]? = w.heap[b]?) : A.cell? ⟨b, 0, none⟩ = some v := by simp [World.cell?, hA, h]
/-- What stands while the entries are gone through. -/
structure EI (b : ByteArray) (cb : Nat) (K : Nat → Prop) (w : World) (J : List En → Option Nat → World → Prop) (r : Nat) (pre : List En) (a : Nat) (wr : World) : Prop where
  le : a ≤ b.size
  eq : pre ++ ents b a cb = ents b 0 cb
  box : wr.heap[r]? = some (.cells (enV (eE (eaA b a cb))) 32 (0, 0))
  j : J pre (some r) wr
  kept : ∀ k, K k → wr.heap[k]? = w.heap[k]?
  new : w.heap.size ≤ r
set_option maxRecDepth 100000 in
set_option maxHeartbeats 1000000 in
theorem entries_st (b : ByteArray) (cb Bb Bc n : Nat) (K : Nat → Prop) (w : World)
    (hb1 : w.heap[Bb]? = some (.cells #[.string b] 9 (0, 0))) (hc1 : w.heap[Bc]? = some (.cells #[.int .i64 cb] 3 (0, 0)))
    (hK' : K Bb ∧ K Bc) (hKc : ∀ k, K k → ∃ c t m, w.heap[k]? = some (.cells c t m)) (hbs : b.size < 1152921504606846976) (hcb : cb ≤ 128) :
    SeqSt Fence.wide n Tryd.prog 70 #[Pt Bb, Pt Bc] encE (fun p x => p ++ [x] <+: ents b 0 cb) TrB (KpB K) (fun p => p = ents b 0 cb) (fun _ => True) none w := fun lp J Jx W hW hJ hJx hY h0 => by
  have hKl : ∀ k, K k → k < w.heap.size := fun k hk => by obtain ⟨c, t, m, h⟩ := hKc k hk; exact (Array.getElem?_eq_some_iff.1 h).1
  have hkW : ∀ k, K k → W.heap[k]? = w.heap[k]? := fun k hk => hW.block k (hKl k hk)
  have hX := boxc hb1 (hkW Bb hK'.1)
  have hC := boxc hc1 (hkW Bc hK'.2)
  have hbl : Bb < W.heap.size := World.block_lt_of_cell? W _ hX
  have hbc : Bc < W.heap.size := World.block_lt_of_cell? W _ hC
  have hea := fun a V ha => entryAt_any b a cb V hbs ha hcb
  refine callsIn_of_wp Tryd.func70 rfl trivial ?_ rfl
  simp only [Tryd.ntmps70, List.size_toArray, List.length_cons, List.length_nil, Nat.reduceAdd, Nat.reduceSub, Array.replicate_succ, Array.replicate_zero, List.push_toArray, List.append_toArray, List.nil_append, List.cons_append]
  gi_wp2_with fail
  refine ⟨trivial, fun h => (by cases h), (callsIn_wide.2 (hea 0 _ (Nat.zero_le _))).mono ?_⟩
  rintro r w1 ⟨rfl, b1⟩
  have bA : Below w1.heap.size w1 (w1.alloc (.cells (enV (eE (eaA b 0 cb))) 32)) := (Below.refl _ w1).alloc (Nat.le_refl _) _
  have bW : Below W.heap.size W (w1.alloc (.cells (enV (eE (eaA b 0 cb))) 32)) := chain b1 bA (Nat.le_refl _)
  have P0 : EI b cb K w J w1.heap.size [] 0 (w1.alloc (.cells (enV (eE (eaA b 0 cb))) 32)) :=
    { le := Nat.zero_le _, eq := rfl, box := heap_alloc_last w1 _
      j := hJ _ _ W _ _ h0 ⟨.below bW, fun k e => by (cases e), fun k e => by (cases e; exact .inr b1.size), fun k e => by (cases e; simp)⟩
      kept := fun k hk => (bW.block k (Nat.lt_of_lt_of_le (hKl k hk) hW.size)).trans (hkW k hk)
      new := Nat.le_trans hW.size b1.size }
  obtain ⟨rb, hrb⟩ : ∃ rb, rb = w1.heap.size := ⟨_, rfl⟩
  obtain ⟨V0, hV0⟩ : ∃ V0, V0 = w1.alloc (.cells (enV (eE (eaA b 0 cb))) 32) := ⟨_, rfl⟩
  rw [← hrb, ← hV0] at P0
  have HV0 := Hid.mk hV0
  clear hV0 bA bW hX hC hbl hbc b1
  gi_wp2
  rw [← hrb, ← HV0.out]
  clear hrb HV0
  gi_loopw [5, 6] (fun av kv wr => ∃ (pre : List En) (a : Nat), av = .int .i64 (eQ (eaA b a cb)) ∧ kv = .bool (eaA b a cb).isSome ∧ EI b cb K w J rb pre a wr) (fun av kv _ => mE b.size av kv)
  case atStart => exact ⟨[], 0, rfl, rfl, P0⟩
  case round =>
    obtain ⟨pre, a, rfl, rfl, hP⟩ := hrel
    clear P0
    cases hE : eaA b a cb with
    | none =>
      have heq := hP.eq
      rw [ents_none hE, List.append_nil] at heq
      have hj := hP.j
      clear hP hE
      have HQ := Hid.mk (And.intro heq hj)
      clear heq hj
      gi_wp2_with fail
      refine ⟨fun f h => (by cases h), ?_⟩
      gi_wp2_with fail
      go_end0
      exact ⟨⟨_, rfl⟩, .inl ⟨pre, some rb, HQ.out.1, HQ.out.2⟩⟩
    | some x =>
      obtain ⟨e, q⟩ := x
      have heq := hP.eq
      rw [ents_some hE] at heq
      have hbox := hP.box
      rw [hE] at hbox
      have hqa := eaA_some hE
      obtain ⟨fn, tmps, assign, body, hy, hRd⟩ := hY pre e (some rb) wr hP.j ⟨ents b q cb, by rw [← heq]; simp⟩
      simp only [encE, enV] at hy
      obtain ⟨y0, y1, y2, y3, y4⟩ := en5 (e := e) hbox
      have HP := Hid.mk hP
      have HQ := Hid.mk heq
      have HE := Hid.mk hE
      clear hP heq hE hbox
      gi_wp2_with fail
      refine ⟨fun h => (by cases h), hRd.mono ?_⟩
      clear hy hRd y0 y1 y2 y3 y4
      rintro rr W3 (⟨rfl, hJ3, hk3⟩ | ⟨rfl, hJ3, hk3⟩)
      · have hbox := HP.out.box
        rw [HE.out] at hbox
        have hbox3 := hk3.2 rb _ _ _ (.inr rfl) hbox
        have kept3 : ∀ k, K k → W3.heap[k]? = w.heap[k]? := fun k hk => by
          obtain ⟨c, t, m, h⟩ := hKc k hk
          rw [h]
          exact hk3.2 k c t m (.inl hk) ((HP.out.kept k hk).trans h)
        have hX := boxc hb1 (kept3 Bb hK'.1)
        have hC := boxc hc1 (kept3 Bc hK'.2)
        have hq := hqa.2
        have hz3 : w.heap.size ≤ W3.heap.size := Nat.le_trans HP.out.new (Nat.le_of_lt (Array.getElem?_eq_some_iff.1 hbox3).1)
        have hE' := Hid.mk hbox3
        have hE2 := Hid.mk hJ3
        have hE3 := Hid.mk kept3
        clear hbox hbox3 hJ3 kept3 hk3
        gi_wp2_with fail
        refine ⟨trivial, fun h => (by cases h), (callsIn_wide.2 (hea q W3 hq)).mono ?_⟩
        rintro r4 W4 ⟨rfl, b4⟩
        have hbox4 : W4.heap[rb]? = _ := (b4.block rb (Array.getElem?_eq_some_iff.1 hE'.out).1).trans hE'.out
        obtain ⟨y0, y1, y2, y3, y4⟩ := en5 (e := e) hbox4
        have f0 : W4.frozen? ⟨rb, 0, none⟩ = false := frozen_of_row _ _ _ _ _ hbox4
        have f1 : W4.frozen? ⟨rb, 1, none⟩ = false := frozen_of_row _ _ _ _ _ hbox4
        have f2 : W4.frozen? ⟨rb, 2, none⟩ = false := frozen_of_row _ _ _ _ _ hbox4
        have f3 : W4.frozen? ⟨rb, 3, none⟩ = false := frozen_of_row _ _ _ _ _ hbox4
        have f4 : W4.frozen? ⟨rb, 4, none⟩ = false := frozen_of_row _ _ _ _ _ hbox4
        have HB4 := Hid.mk hbox4
        clear hbox4 hX hC
        gi_wp2
        have st4 : Stay (fun k => (some rb : Option Nat) = some k) W3 (put5 W4 rb (eE (eaA b q cb))) := (Stay.below b4).trans ((put5_stay W4 rb _).mono (fun k _ e => by rw [e]))
        have hrl := (Array.getElem?_eq_some_iff.1 hE'.out).1
        have hb5 := put5_at HB4.out (eE (eaA b q cb))
        refine ⟨⟨pre ++ [e], q, rfl, rfl, hq, by rw [List.append_assoc]; exact HQ.out, hb5, hJ _ _ W3 _ _ hE2.out ⟨st4, fun k h => by (cases h; exact ⟨_, _, _, hE'.out⟩), fun k h => .inl h, fun k h => by (cases h; exact (Array.getElem?_eq_some_iff.1 hb5).1)⟩, fun k hk => ?_, HP.out.new⟩, ?_⟩
        · have hkl := hKl k hk
          have : k ≠ rb := fun h => by have := HP.out.new; omega
          exact (st4.block k (by omega) (fun h => by cases h; exact this rfl)).trans (hE3.out k hk)
        · cases hE5 : eaA b q cb with
          | none => simp only [mE, Option.isSome, eQ, Option.map, Option.getD, intOf]; omega
          | some x =>
            obtain ⟨e5, q5⟩ := x
            have := eaA_some hE5
            simp only [mE, Option.isSome, eQ, Option.map, Option.getD, intOf]; omega
      · have HJ := Hid.mk hJ3
        clear hJ3 hk3
        gi_wp2_with fail
        go_end0
        exact ⟨⟨_, rfl⟩, .inr ⟨_, _, trivial, HJ.out⟩⟩
end Go.Proofs.YtjdpolhjbkpnlaaDoor
set_option linter.unusedVariables false
set_option linter.unusedSimpArgs false
namespace Go.Proofs.YtjdpolhjbkpnlaaDoor
open Go.RowKit Go.Proofs.SealMath
/-- Numbers that were read, and noughts behind them. -/
def nsC (l : List Nat) : List Value := (l ++ List.replicate (6 - l.length) 0).map fun x => .int .i64 (w64 x)
theorem nsC_set (l : List Nat) (v : Nat) (h : l.length < 6) : (nsC l).toArray.setIfInBounds l.length (.int .i64 (w64 v)) = (nsC (l ++ [v])).toArray := by
  unfold nsC
  rw [List.setIfInBounds_toArray]
  congr 1
  have e : 6 - l.length = (6 - (l ++ [v]).length) + 1 := by simp; omega
  rw [e, List.replicate_succ, List.map_append, List.map_cons, List.set_append_right _ _ (by simp)]
  simp
theorem nsC_len (l : List Nat) (h : l.length ≤ 6) : (nsC l).length = 6 := by simp [nsC]; omega
def hdM (o : Option (List Nat)) : Hd := match o with
  | some [a, c, d, e, f, g] => ⟨w64 a, w64 c, w64 d, w64 e, w64 f, w64 g⟩
  | _ => h0
theorem hdR_M (b : ByteArray) : hdR b = hdM (nsA b 6 0) := rfl
theorem six_of (l : List Nat) (h : l.length = 6) : ∃ a c d e f g, l = [a, c, d, e, f, g] := by
  match l, h with
  | [a, c, d, e, f, g], _ => exact ⟨a, c, d, e, f, g, rfl⟩
set_option maxHeartbeats 4000000 in
set_option maxRecDepth 100000 in
theorem readHead_any (b : ByteArray) (w : World) (hb : b.size < 4611686018427387904) :
    Calls Tryd.prog 24 #[.string b] w fun r w' => r = .returned (.agg (hdC (hdR b)).toArray) ∧ Below w.heap.size w w' := by
  obtain ⟨W0, hW0⟩ : ∃ W0, W0 = (w.alloc (.cells #[.int .i64 0, .int .i64 0, .int .i64 0, .int .i64 0, .int .i64 0, .int .i64 0] 42)).alloc (.cells #[.int .i64 0, .int .i64 0, .int .i64 0, .int .i64 0, .int .i64 0, .int .i64 0] 108) := ⟨_, rfl⟩
  have hA : W0.heap[w.heap.size + 1]? = some (.cells (nsC []).toArray 108 (0, 0)) := by
    have := heap_alloc_last (w.alloc (.cells #[.int .i64 0, .int .i64 0, .int .i64 0, .int .i64 0, .int .i64 0, .int .i64 0] 42)) (.cells #[.int .i64 0, .int .i64 0, .int .i64 0, .int .i64 0, .int .i64 0, .int .i64 0] 108)
    rw [World.size_alloc] at this
    rw [hW0, this]; rfl
  have bW0 : Below w.heap.size w W0 := by rw [hW0]; exact ((Below.refl _ w).alloc (Nat.le_refl _) _).alloc (by simp) _
  have hR : W0.heap[w.heap.size]? = some (.cells #[.int .i64 0, .int .i64 0, .int .i64 0, .int .i64 0, .int .i64 0, .int .i64 0] 42 (0, 0)) := by
    have h1 := heap_alloc_last w (.cells #[.int .i64 0, .int .i64 0, .int .i64 0, .int .i64 0, .int .i64 0, .int .i64 0] 42)
    have b2 : Below (w.alloc (.cells #[.int .i64 0, .int .i64 0, .int .i64 0, .int .i64 0, .int .i64 0, .int .i64 0] 42)).heap.size (w.alloc (.cells #[.int .i64 0, .int .i64 0, .int .i64 0, .int .i64 0, .int .i64 0, .int .i64 0] 42)) W0 := by rw [hW0]; exact (Below.refl _ _).alloc (Nat.le_refl _) _
    exact (b2.block _ (by simp)).trans h1
  have HW0 := Hid.mk hW0
  clear hW0
  rw [hdR_M]
  obtain ⟨G, hG⟩ : ∃ G, G = nsA b 6 0 := ⟨_, rfl⟩
  rw [← hG]
  go_enter Tryd.func24, Tryd.ntmps24
  go_wp2
  rw [← HW0.out]
  go_loopw [4, 9] (fun pv iv wr => ∃ (l : List Nat) (p : Nat), iv = .int .i64 l.length ∧ pv = .int .i64 p ∧ l.length ≤ 6 ∧ G = (nsA b (6 - l.length) p).map (l ++ ·) ∧ wr.heap[w.heap.size + 1]? = some (.cells (nsC l).toArray 108 (0, 0)) ∧ Stay (fun k => k = w.heap.size + 1) W0 wr) (fun _ iv _ => 6 - (intOf iv).toNat)
  case atStart => exact ⟨[], 0, rfl, rfl, Nat.zero_le _, by rw [hG]; simp, hA, Stay.refl _ _⟩
  case round =>
    obtain ⟨l, p, rfl, rfl, hl, hN, hC, hS⟩ := hrel
    clear hG
    have hRr : wr.heap[w.heap.size]? = _ := (hS.block w.heap.size (Array.getElem?_eq_some_iff.1 hR).1 (by omega)).trans hR
    have bwr : Below w.heap.size w wr := bW0.trans (hS.toBelow (fun k hk e => by omega) bW0.size)
    by_cases hlt : l.length < 6
    · obtain ⟨⟨v, q, e⟩, hv⟩ : ∃ r, vA b (p : Int) = r := ⟨_, rfl⟩
      have c1 := fun W => var_read b p W hb v q e hv
      have kv := vA_at b p
      rw [hv] at kv
      dsimp only at kv
      have e6 : 6 - l.length = (6 - (l.length + 1)) + 1 := by omega
      rw [e6, nsA, hv] at hN
      dsimp only at hN
      have hl6 : (l.length : Int) < 6 := by omega
      by_cases he : e = 0
      · subst he
        rw [if_pos rfl] at hN
        have wv := w64_wrap v (kv rfl).1
        have hcell : wr.cell? ⟨w.heap.size + 1, l.length, none⟩ = some ((nsC l)[l.length]'(by rw [nsC_len l hl]; exact hlt)) := by
          rw [cell_of_row _ _ l.length _ _ (0, 0) hC]
          simp [nsC_len l hl, hlt]
        have hfr : wr.frozen? ⟨w.heap.size + 1, l.length, none⟩ = false := frozen_of_row _ _ _ _ _ hC
        have hset := heap_setCell_same wr (w.heap.size + 1) l.length _ _ (.int .i64 (w64 v)) hC
        rw [nsC_set l v hlt] at hset
        have HH := Hid.mk (And.intro hN (And.intro hset (And.intro hS hRr)))
        clear hN hset hS hRr hC kv hv
        generalize w64 v = V at *
        go_wp2_with (go_at_call 31; refine (c1 _).mono ?_; rintro r w' ⟨rfl, rfl⟩; clear c1)
        obtain ⟨k1, k2, k3, k4⟩ := HH.out
        refine ⟨⟨l ++ [v], q, ival (by simp), rfl, by simp; omega, ?_, k2, Stay.setCell (F := fun k => k = w.heap.size + 1) k3 (p := ⟨w.heap.size + 1, l.length, none⟩) (fun _ => rfl) _⟩, by simp only [intOf]; simp; omega⟩
        rw [k1]
        rw [show 6 - (l ++ [v]).length = 6 - (l.length + 1) by simp]
        cases nsA b (6 - (l.length + 1)) q with
        | none => rfl
        | some m => simp
      · rw [if_neg he] at hN
        have hE : hdM G = h0 := by rw [hN]; rfl
        have hne : (e != 0) = true := by simpa using he
        have r0 : wr.cell? ⟨w.heap.size, 0, none⟩ = some (.int .i64 0) := by rw [cell_of_row _ _ 0 _ _ (0, 0) hRr]; rfl
        have r1 : wr.cell? ⟨w.heap.size, 1, none⟩ = some (.int .i64 0) := by rw [cell_of_row _ _ 1 _ _ (0, 0) hRr]; rfl
        have r2 : wr.cell? ⟨w.heap.size, 2, none⟩ = some (.int .i64 0) := by rw [cell_of_row _ _ 2 _ _ (0, 0) hRr]; rfl
        have r3 : wr.cell? ⟨w.heap.size, 3, none⟩ = some (.int .i64 0) := by rw [cell_of_row _ _ 3 _ _ (0, 0) hRr]; rfl
        have r4 : wr.cell? ⟨w.heap.size, 4, none⟩ = some (.int .i64 0) := by rw [cell_of_row _ _ 4 _ _ (0, 0) hRr]; rfl
        have r5 : wr.cell? ⟨w.heap.size, 5, none⟩ = some (.int .i64 0) := by rw [cell_of_row _ _ 5 _ _ (0, 0) hRr]; rfl
        have fz : ∀ j, wr.frozen? ⟨w.heap.size, j, none⟩ = false := fun j => frozen_of_row _ _ _ _ _ hRr
        have f0 := fz 0
        have f1 := fz 1
        have f2 := fz 2
        have f3 := fz 3
        have f4 := fz 4
        have f5 := fz 5
        have HE := Hid.mk (And.intro hE bwr)
        clear hE hN he hv kv hRr hS hC hA hR bW0 HW0 fz bwr
        go_wp2_with (go_at_call 31; refine (c1 _).mono ?_; rintro r w' ⟨rfl, rfl⟩; clear c1)
        refine bodyPost_ret (v := .agg (hdC h0).toArray) (by simp [results, Tryd.results24, go_sem, hdC, h0, r0, r1, r2, r3, r4, r5]; try rfl) rfl ?_
        rw [HE.out.1]
        exact ⟨rfl, (((((HE.out.2.setCell (p := ⟨w.heap.size, 0, none⟩) (Nat.le_refl _) _).setCell (p := ⟨w.heap.size, 1, none⟩) (Nat.le_refl _) _).setCell (p := ⟨w.heap.size, 2, none⟩) (Nat.le_refl _) _).setCell (p := ⟨w.heap.size, 3, none⟩) (Nat.le_refl _) _).setCell (p := ⟨w.heap.size, 4, none⟩) (Nat.le_refl _) _).setCell (p := ⟨w.heap.size, 5, none⟩) (Nat.le_refl _) _⟩
    · have hl6 : l.length = 6 := by omega
      obtain ⟨a, c, d, e, f, g, rfl⟩ := six_of l hl6
      have hE : hdM G = ⟨w64 a, w64 c, w64 d, w64 e, w64 f, w64 g⟩ := by rw [hN]; rfl
      have x0 : wr.cell? ⟨w.heap.size + 1, 0, none⟩ = some (.int .i64 (w64 a)) := by rw [cell_of_row _ _ 0 _ _ (0, 0) hC]; rfl
      have x1 : wr.cell? ⟨w.heap.size + 1, 1, none⟩ = some (.int .i64 (w64 c)) := by rw [cell_of_row _ _ 1 _ _ (0, 0) hC]; rfl
      have x2 : wr.cell? ⟨w.heap.size + 1, 2, none⟩ = some (.int .i64 (w64 d)) := by rw [cell_of_row _ _ 2 _ _ (0, 0) hC]; rfl
      have x3 : wr.cell? ⟨w.heap.size + 1, 3, none⟩ = some (.int .i64 (w64 e)) := by rw [cell_of_row _ _ 3 _ _ (0, 0) hC]; rfl
      have x4 : wr.cell? ⟨w.heap.size + 1, 4, none⟩ = some (.int .i64 (w64 f)) := by rw [cell_of_row _ _ 4 _ _ (0, 0) hC]; rfl
      have x5 : wr.cell? ⟨w.heap.size + 1, 5, none⟩ = some (.int .i64 (w64 g)) := by rw [cell_of_row _ _ 5 _ _ (0, 0) hC]; rfl
      have r0 : wr.cell? ⟨w.heap.size, 0, none⟩ = some (.int .i64 0) := by rw [cell_of_row _ _ 0 _ _ (0, 0) hRr]; rfl
      have r1 : wr.cell? ⟨w.heap.size, 1, none⟩ = some (.int .i64 0) := by rw [cell_of_row _ _ 1 _ _ (0, 0) hRr]; rfl
      have r2 : wr.cell? ⟨w.heap.size, 2, none⟩ = some (.int .i64 0) := by rw [cell_of_row _ _ 2 _ _ (0, 0) hRr]; rfl
      have r3 : wr.cell? ⟨w.heap.size, 3, none⟩ = some (.int .i64 0) := by rw [cell_of_row _ _ 3 _ _ (0, 0) hRr]; rfl
      have r4 : wr.cell? ⟨w.heap.size, 4, none⟩ = some (.int .i64 0) := by rw [cell_of_row _ _ 4 _ _ (0, 0) hRr]; rfl
      have r5 : wr.cell? ⟨w.heap.size, 5, none⟩ = some (.int .i64 0) := by rw [cell_of_row _ _ 5 _ _ (0, 0) hRr]; rfl
      have fz : ∀ j, wr.frozen? ⟨w.heap.size, j, none⟩ = false := fun j => frozen_of_row _ _ _ _ _ hRr
      have f0 := fz 0
      have f1 := fz 1
      have f2 := fz 2
      have f3 := fz 3
      have f4 := fz 4
      have f5 := fz 5
      have hz : w.heap.size + 1 < wr.heap.size := World.block_lt_of_cell? wr _ x0
      have HE := Hid.mk bwr
      have HEE := Hid.mk hE
      clear hE hN hRr hS hC hA hR bW0 HW0 fz bwr hl
      generalize w64 a = A0 at *
      generalize w64 c = A1 at *
      generalize w64 d = A2 at *
      generalize w64 e = A3 at *
      generalize w64 f = A4 at *
      generalize w64 g = A5 at *
      simp only [List.length_cons, List.length_nil, Nat.reduceAdd]
      go_wp2
      refine bodyPost_ret (v := .agg #[.int .i64 A0, .int .i64 A1, .int .i64 A2, .int .i64 A3, .int .i64 A4, .int .i64 A5]) (by simp [results, Tryd.results24, go_sem, r0, r1, r2, r3, r4, r5]; try rfl) rfl ?_
      rw [HEE.out]
      exact ⟨rfl, (((((HE.out.setCell (p := ⟨w.heap.size, 0, none⟩) (Nat.le_refl _) _).setCell (p := ⟨w.heap.size, 1, none⟩) (Nat.le_refl _) _).setCell (p := ⟨w.heap.size, 2, none⟩) (Nat.le_refl _) _).setCell (p := ⟨w.heap.size, 3, none⟩) (Nat.le_refl _) _).setCell (p := ⟨w.heap.size, 4, none⟩) (Nat.le_refl _) _).setCell (p := ⟨w.heap.size, 5, none⟩) (Nat.le_refl _) _⟩
end Go.Proofs.YtjdpolhjbkpnlaaDoor
set_option linter.unusedVariables false
set_option linter.unusedSimpArgs false
namespace Go.Proofs.YtjdpolhjbkpnlaaDoor
open Go.RowKit Go.Proofs.SealMath
theorem infoStr : (Tryd.prog.info? 9).map (fun i => (i.zero, i.size, i.bytes)) = some (some (.string ⟨#[]⟩), 1, 16) := by kernel_rfl
theorem infoEn : (Tryd.prog.info? 32).map (fun i => (i.zero, i.size, i.bytes)) = some (some (.agg #[.int .i64 0, .string ⟨#[]⟩, .int .i64 0, .int .i64 0, .bool false]), 5, 48) := by kernel_rfl
theorem new_cell (W : World) (cs : List Value) (t : TypeId) (j : Nat) (u : Value) (hu : cs[j]? = some u) : (W.alloc (.cells cs.toArray t)).cell? ((⟨W.heap.size, 0, none⟩ : Addr).add j) = some u := by
  have e : (⟨W.heap.size, 0, none⟩ : Addr).add j = ⟨W.heap.size, j, none⟩ := by unfold Addr.add; split <;> simp_all
  rw [e, cell_of_row _ _ j _ t (0, 0) (heap_alloc_last W _)]
  simpa using hu
/-- A text. -/
abbrev sv (p : List UInt8) : Value := .string ⟨p.toArray⟩
theorem str_app (W : World) (ls : List (List UInt8)) (lv : Value) (h : W.ownsRow 0 9 1 lv ls.length (ls.map sv)) (y : List UInt8) (hb : ls.length + 1 ≤ 1099511627776) :
    ∃ v' w', (Builtin.append_ #[43, 43] 43 #[lv, .slice (some ⟨W.heap.size, 0, none⟩) 1 1]).run Tryd.prog (W.alloc (.cells #[sv y] 9)) = .ok v' w' ∧ w'.ownsRow 0 9 1 v' (ls ++ [y]).length ((ls ++ [y]).map sv) ∧ Stay (fun k => lv.ownBlock = some k) W w' ∧
      (∀ k, v'.ownBlock = some k → lv.ownBlock = some k ∨ W.heap.size ≤ k) := by
  obtain ⟨i0, hi, hz0, hz1, hz2⟩ := info_parts infoStr
  have st0 : Stay (fun k => lv.ownBlock = some k) W (W.alloc (.cells #[sv y] 9)) := (Stay.refl _ W).alloc _
  have h' : (W.alloc (.cells #[sv y] 9)).ownsRow 0 9 1 lv ls.length (ls.map sv) := h.alloc _
  have h1c : ∀ u ∈ [sv y], u.oneCell' = true := fun u hu => by
    simp at hu
    rcases hu with rfl; rfl
  obtain ⟨v', w', hr, ho, hg, _, hloc⟩ := run_append_own_at (P := Tryd.prog) (W.alloc (.cells #[sv y] 9)) 0 43 43 9 i0 _ 1 16 Tryd.underlying43 hi hz0 hz1 hz2 rfl (by decide) lv ls.length _ h' ⟨W.heap.size, 0, none⟩ 1 1 [sv y] rfl (new_cell W [sv y] 9) h1c (by unfold maxLen; omega) (by omega) (Nat.zero_le _)
  refine ⟨v', w', hr, by rw [List.length_append, List.map_append]; simpa using ho, st0.trans (.grown hg (fun k hk => hk)), fun k hk => ?_⟩
  rcases hloc with hl | hl
  · exact .inl (hl ▸ hk)
  · rw [hl] at hk; cases hk; exact .inr (by simp)
theorem en_app (W : World) (ls : List En) (lv : Value) (h : W.ownsRow 0 32 5 lv ls.length (ls.flatMap enC)) (y : En) (hb : ls.length + 1 ≤ 1099511627776) :
    ∃ v' w', (Builtin.append_ #[44, 44] 44 #[lv, .slice (some ⟨W.heap.size, 0, none⟩) 1 1]).run Tryd.prog (W.alloc (.cells (enV y) 32)) = .ok v' w' ∧ w'.ownsRow 0 32 5 v' (ls ++ [y]).length ((ls ++ [y]).flatMap enC) ∧ Stay (fun k => lv.ownBlock = some k) W w' ∧
      (∀ k, v'.ownBlock = some k → lv.ownBlock = some k ∨ W.heap.size ≤ k) := by
  obtain ⟨i0, hi, hz0, hz1, hz2⟩ := info_parts infoEn
  have st0 : Stay (fun k => lv.ownBlock = some k) W (W.alloc (.cells (enV y) 32)) := (Stay.refl _ W).alloc _
  have h' : (W.alloc (.cells (enV y) 32)).ownsRow 0 32 5 lv ls.length (ls.flatMap enC) := h.alloc _
  have h1c : ∀ u ∈ enC y, u.oneCell' = true := fun u hu => by
    simp [enC] at hu
    rcases hu with rfl | rfl | rfl | rfl | rfl <;> rfl
  obtain ⟨v', w', hr, ho, hg, _, hloc⟩ := run_append_own_at (P := Tryd.prog) (W.alloc (.cells (enV y) 32)) 0 44 44 32 i0 _ 5 48 Tryd.underlying44 hi hz0 hz1 hz2 rfl (by decide) lv ls.length _ h' ⟨W.heap.size, 0, none⟩ 1 1 (enC y) rfl (new_cell W (enC y) 32) h1c (by unfold maxLen; omega) (by omega) (Nat.zero_le _)
  refine ⟨v', w', hr, by rw [List.length_append, List.flatMap_append]; simpa using ho, st0.trans (.grown hg (fun k hk => hk)), fun k hk => ?_⟩
  rcases hloc with hl | hl
  · exact .inl (hl ▸ hk)
  · rw [hl] at hk; cases hk; exact .inr (by simp)
/-- A file's cells. -/
abbrev flV (h : Hd) (bv iv : Value) (rd : Nat) : Array Value := #[.int .i64 h.w, .int .i64 h.t, .int .i64 h.b, .int .i64 h.lo, .int .i64 h.hi, .int .i64 h.n, bv, iv, .int .i64 rd]
/-- A file in memory: its head, its blocks' bytes, its index, how many blocks were read. -/
structure FA (W : World) (fb : Nat) (h : Hd) (bl : List (List UInt8)) (ix : List En) (bv iv : Value) (rd : Nat) : Prop where
  box : W.heap[fb]? = some (.cells (flV h bv iv rd) 46 (0, 0))
  row : W.ownsRow 0 9 1 bv bl.length (bl.map sv)
  idx : W.ownsRow 0 32 5 iv ix.length (ix.flatMap enC)
theorem FA.kept {W W' : World} {F : Nat → Prop} {fb : Nat} {h : Hd} {bl : List (List UInt8)} {ix : List En} {bv iv : Value} {rd : Nat} (H : FA W fb h bl ix bv iv rd) (s : Stay F W W') (h1 : ¬ F fb) (h2 : ∀ k, bv.ownBlock = some k → ¬ F k) (h3 : ∀ k, iv.ownBlock = some k → ¬ F k) : FA W' fb h bl ix bv iv rd :=
  ⟨(s.block fb (Array.getElem?_eq_some_iff.1 H.box).1 h1).trans H.box, row_kept H.row s h2, row_kept H.idx s h3⟩
theorem FA.below {W W' : World} {fb : Nat} {h : Hd} {bl : List (List UInt8)} {ix : List En} {bv iv : Value} {rd : Nat} (H : FA W fb h bl ix bv iv rd) (b : Below W.heap.size W W') : FA W' fb h bl ix bv iv rd :=
  H.kept (F := fun _ => False) (.below b) (fun h => h) (fun _ _ h => h) (fun _ _ h => h)
theorem FA.lt {W : World} {fb : Nat} {h : Hd} {bl : List (List UInt8)} {ix : List En} {bv iv : Value} {rd : Nat} (H : FA W fb h bl ix bv iv rd) : fb < W.heap.size := (Array.getElem?_eq_some_iff.1 H.box).1
theorem FA.row_ne {W : World} {fb : Nat} {h : Hd} {bl : List (List UInt8)} {ix : List En} {bv iv : Value} {rd : Nat} (H : FA W fb h bl ix bv iv rd) {k : Nat} (hk : bv.ownBlock = some k) : k ≠ fb := fun e => by
  obtain ⟨c, hc⟩ := row_block H.row hk
  have := H.box
  rw [← e, hc] at this; simp at this
theorem FA.idx_ne {W : World} {fb : Nat} {h : Hd} {bl : List (List UInt8)} {ix : List En} {bv iv : Value} {rd : Nat} (H : FA W fb h bl ix bv iv rd) {k : Nat} (hk : iv.ownBlock = some k) : k ≠ fb := fun e => by
  obtain ⟨c, hc⟩ := row_block H.idx hk
  have := H.box
  rw [← e, hc] at this; simp at this
theorem FA.apart {W : World} {fb : Nat} {h : Hd} {bl : List (List UInt8)} {ix : List En} {bv iv : Value} {rd : Nat} (H : FA W fb h bl ix bv iv rd) {k : Nat} (hk : bv.ownBlock = some k) : ¬ iv.ownBlock = some k := fun e => by
  obtain ⟨c, hc⟩ := row_block H.row hk
  obtain ⟨d, hd⟩ := row_block H.idx e
  rw [hc] at hd; simp at hd
/-- A file's cells, one by one. -/
theorem fl9 {W : World} {fb : Nat} {h : Hd} {bv iv : Value} {rd : Nat} (hb : W.heap[fb]? = some (.cells (flV h bv iv rd) 46 (0, 0))) :
    (W.cell? ⟨fb, 0, none⟩ = some (.int .i64 h.w) ∧ W.cell? ⟨fb, 1, none⟩ = some (.int .i64 h.t) ∧ W.cell? ⟨fb, 2, none⟩ = some (.int .i64 h.b) ∧ W.cell? ⟨fb, 3, none⟩ = some (.int .i64 h.lo) ∧ W.cell? ⟨fb, 4, none⟩ = some (.int .i64 h.hi) ∧ W.cell? ⟨fb, 5, none⟩ = some (.int .i64 h.n)) ∧ W.cell? ⟨fb, 6, none⟩ = some bv ∧ W.cell? ⟨fb, 7, none⟩ = some iv ∧ W.cell? ⟨fb, 8, none⟩ = some (.int .i64 rd) ∧ ∀ j, W.frozen? ⟨fb, j, none⟩ = false :=
  ⟨⟨by rw [cell_of_row _ _ 0 _ _ (0, 0) hb]; rfl, by rw [cell_of_row _ _ 1 _ _ (0, 0) hb]; rfl, by rw [cell_of_row _ _ 2 _ _ (0, 0) hb]; rfl, by rw [cell_of_row _ _ 3 _ _ (0, 0) hb]; rfl, by rw [cell_of_row _ _ 4 _ _ (0, 0) hb]; rfl, by rw [cell_of_row _ _ 5 _ _ (0, 0) hb]; rfl⟩, by rw [cell_of_row _ _ 6 _ _ (0, 0) hb]; rfl, by rw [cell_of_row _ _ 7 _ _ (0, 0) hb]; rfl, by rw [cell_of_row _ _ 8 _ _ (0, 0) hb]; rfl, fun j => frozen_of_row _ _ _ _ _ hb⟩
theorem fl_set6 {W : World} {fb : Nat} {h : Hd} {bv iv : Value} {rd : Nat} (hb : W.heap[fb]? = some (.cells (flV h bv iv rd) 46 (0, 0))) (v : Value) : (W.setCell ⟨fb, 6, none⟩ v).heap[fb]? = some (.cells (flV h v iv rd) 46 (0, 0)) := heap_setCell_same W fb 6 _ _ v hb
theorem fl_set7 {W : World} {fb : Nat} {h : Hd} {bv iv : Value} {rd : Nat} (hb : W.heap[fb]? = some (.cells (flV h bv iv rd) 46 (0, 0))) (v : Value) : (W.setCell ⟨fb, 7, none⟩ v).heap[fb]? = some (.cells (flV h bv v rd) 46 (0, 0)) := heap_setCell_same W fb 7 _ _ v hb
theorem fl_set8 {W : World} {fb : Nat} {h : Hd} {bv iv : Value} {rd : Nat} (hb : W.heap[fb]? = some (.cells (flV h bv iv rd) 46 (0, 0))) (v : Nat) : (W.setCell ⟨fb, 8, none⟩ (.int .i64 v)).heap[fb]? = some (.cells (flV h bv iv v) 46 (0, 0)) := heap_setCell_same W fb 8 _ _ _ hb
set_option maxRecDepth 100000 in
theorem codeBytes_any (fb : Nat) (h : Hd) (bv iv : Value) (rd : Nat) (w : World) (hb : w.heap[fb]? = some (.cells (flV h bv iv rd) 46 (0, 0))) (hw : 64 ≤ h.w ∧ h.w ≤ 1024) :
    Calls Tryd.prog 13 #[Pt fb] w fun r w' => r = .returned (.int .i64 (cbH h : Nat)) ∧ w' = w := by
  obtain ⟨⟨y0, -⟩, -⟩ := fl9 hb
  have e : ((cbH h : Nat) : Int) = h.w / 8 := by unfold cbH; omega
  rw [e]
  clear hb e
  go_enter Tryd.func13, Tryd.ntmps13
  obtain ⟨x, hx⟩ : ∃ x, x = h.w := ⟨_, rfl⟩
  rw [← hx] at y0 hw ⊢
  clear hx
  go_wp2
  go_ret
  exact ⟨ret_int (by omega), rfl⟩
set_option maxRecDepth 100000 in
theorem entries_any (b : ByteArray) (cb : Nat) (w : World) :
    Calls Tryd.prog 29 #[.string b, .int .i64 cb] w fun r w' => r = .returned (.func (.func 70) #[] #[Pt w.heap.size, Pt (w.heap.size + 1)]) ∧ w' = (w.alloc (.cells #[.string b] 9)).alloc (.cells #[.int .i64 cb] 3) := by
  have hmf : ∀ (fn : Fn) (first cap : Array Value) (w : World), (Instr.makeFunc fn first cap).run Tryd.prog w = .ok (.func fn first cap) w := fun _ _ _ _ => rfl
  go_enter Tryd.func29, Tryd.ntmps29
  go_wp2
  go_ret
  exact ⟨rfl, rfl⟩
end Go.Proofs.YtjdpolhjbkpnlaaDoor
