/-
  DERIVED. A reply is written; what is not named of it.
-/
import Derived.Test.YtjdknijjkjmafaaWHitW
set_option linter.unusedVariables false
set_option linter.unusedSimpArgs false
namespace Go.Proofs.Ytjdknijjkjmafaa
open Go.RowKit Go.Proofs.SealMath
/-- Numbers of an int's size. -/
def HtsW (L : List Ht) : Prop := ∀ h ∈ L, h.d ≤ 9223372036854775807 ∧ h.i ≤ 9223372036854775807
theorem hk_ok {h : Ht} (e : hkE h = 0) (w : h.d ≤ 9223372036854775807 ∧ h.i ≤ 9223372036854775807) : VHt h := by
  unfold hkE at e
  cases h1 : decide (h.d < 0) <;> cases h2 : decide (h.i < 0) <;> cases h3 : decide (65536 < h.c.size) <;> rw [h1, h2, h3] at e <;> simp [ckE] at e
  exact ⟨h1, h2, by have := of_decide_eq_false h3; omega, w.1, w.2⟩
theorem gs_ok : ∀ (L : List Ht) (p : Option Ht), gsF L p = 0 → ∀ h ∈ L, hkE h = 0
  | [], _, _, h, hh => by simp at hh
  | x :: t, p, e, h, hh => by
    rw [gsE_cons] at e
    by_cases h0 : hkE x = 0
    · rw [if_neg (fun g => g h0)] at e
      split at e
      · rcases List.mem_cons.1 hh with rfl | hh
        · exact h0
        · exact gs_ok t _ e h hh
      · simp at e
    · rw [if_pos h0] at e; exact absurd e h0
theorem gl_ok {L : List Ht} (e : glE L = 0) (w : HtsW L) : L.length ≤ 65536 ∧ ∀ h ∈ L, VHt h := by
  unfold glE at e
  split at e
  · simp at e
  · exact ⟨by omega, fun h hh => hk_ok (gs_ok L none e h hh) (w h hh)⟩
/-- What operation i + 1 names of a reply, written. -/
def wrP (i : Nat) (r : Rp) (L : List Ht) : List UInt8 :=
  match i with
  | 2 => wrT r.t
  | 3 => pvL 9 L.length ++ L.flatMap wrHt
  | 4 => pvL 9 L.length ++ L.flatMap wrHt
  | 5 => wrN r.n
  | 7 => wrN r.n
  | _ => []
/-- Where a list of hits lies: below B. -/
def HsB (w : World) (a : Option Addr) (L : List Ht) (B : Nat) : Prop := L = [] ∨ ∃ g off, a = some ⟨g, off, none⟩ ∧ g < B ∧ ∀ i (hi : i < L.length), w.cell? ⟨g, off + i * 3, none⟩ = some (.int .i64 L[i].d) ∧ w.cell? ⟨g, off + i * 3 + 1, none⟩ = some (.int .i64 L[i].i) ∧ w.cell? ⟨g, off + i * 3 + 2, none⟩ = some (.string L[i].c)
theorem HsB.below {w w' : World} {a : Option Addr} {L : List Ht} {B : Nat} (h : HsB w a L B) (b : Below w.heap.size w w') : HsB w' a L B := by
  rcases h with h | ⟨g, off, e, hg, hc⟩
  · exact .inl h
  · exact .inr ⟨g, off, e, hg, fun i hi => by
      obtain ⟨c0, c1, c2⟩ := hc i hi
      exact ⟨cell_below b c0, cell_below b c1, cell_below b c2⟩⟩
theorem HsB.stay {F : Nat → Prop} {w w' : World} {a : Option Addr} {L : List Ht} {B : Nat} (h : HsB w a L B) (s : Stay F w w') (hF : ∀ k, F k → B ≤ k) : HsB w' a L B := by
  rcases h with h | ⟨g, off, e, hg, hc⟩
  · exact .inl h
  · have n : ¬ F g := fun e => by have := hF g e; omega
    exact .inr ⟨g, off, e, hg, fun i hi => by
      obtain ⟨c0, c1, c2⟩ := hc i hi
      exact ⟨cstay s n c0, cstay s n c1, cstay s n c2⟩⟩
theorem HsB.at {w : World} {a : Option Addr} {L : List Ht} {B : Nat} (h : HsB w a L B) (hB : B ≤ w.heap.size) : HsAt w a L := by
  rcases h with h | ⟨g, off, e, hg, hc⟩
  · exact .inl h
  · exact .inr ⟨g, off, e, by omega, hc⟩
theorem rp_write (i : Nat) (r : Rp) (L : List Ht) (a : Option Addr) (cap : Nat) (w : World) (g b B : Nat) (v : Value) (l : List UInt8) (hg : HC w g (rpC r (.slice a L.length cap)) 29) (h : Bd w b (Pt b) v l) (hl : l.length ≤ 1000)
    (hck : ckP i r L = (false, false, 0)) (hn : r.n ≤ 9223372036854775807) (hW : HtsW L) (hgB : g < B) (hL : HsB w a L B) (low : B ≤ b) (lv : ∀ k, v.ownBlock = some k → B ≤ k) (lw : B ≤ w.heap.size) :
    Calls Try.prog (rpF i) #[Pt g, (wrH b).v] w fun e w' => e = Un ∧ ∃ v', Wt w w' b v v' (l ++ wrP i r L) := by
  have E := wrH_ent b
  have hne : g ≠ b := by omega
  have hgv : ∀ k, v.ownBlock = some k → g ≠ k := fun k hk => by have := lv k hk; omega
  have bA' : Below w.heap.size w (w.alloc (wrH b).box) := (Below.refl _ w).alloc (Nat.le_refl _) _
  have bA : Below w.heap.size w (w.alloc (wrH b).box).drew := ⟨bA'.os, bA'.tape, bA'.output, bA'.size, bA'.block⟩
  have hA : HC (w.alloc (wrH b).box).drew g (rpC r (.slice a L.length cap)) 29 := HC.drew (hg.alloc _)
  have hcc : i = 2 ∨ i = 3 ∨ i = 4 ∨ i = 5 ∨ i = 7 ∨ ¬ (i = 2 ∨ i = 3 ∨ i = 4 ∨ i = 5 ∨ i = 7) := by omega
  have hits : ∀ (hG : glE L = 0), Calls Try.prog 72 #[Pt g, (wrH b).v] w fun e w' => e = Un ∧ ∃ v', Wt w w' b v v' (l ++ (pvL 9 L.length ++ L.flatMap wrHt)) := fun hG => by
    obtain ⟨g1, g2⟩ := gl_ok hG hW
    refine hits_g (wrH b) g w _ E.2.2 ?_
    refine (whits_any L a cap _ g 3 b B v l (Bd.drew (h.alloc _)) hl g1 g2 (hA.cell rfl) hgB (hL.below bA) low lv (Nat.le_trans lw bA.size)).mono ?_
    rintro e w1 ⟨rfl, v1, t1⟩
    exact ⟨rfl, wt_kept t1 h.lt h.row_lt, rfl, v1, wt_box t1⟩
  have nums : ∀ (hG : decide (r.n < 0) = false), Calls Try.prog 75 #[Pt g, (wrH b).v] w fun e w' => e = Un ∧ ∃ v', Wt w w' b v v' (l ++ wrN r.n) := fun hG => by
    refine number_g (wrH b) g w _ E.1 ?_
    refine (wnumber_any r.n.toNat _ g 1 (Bd.drew (h.alloc _)) (wn hG hn) (by omega) (by rw [← num_cell hG]; exact hA.cell rfl) hne hgv).mono ?_
    rintro e w1 ⟨rfl, v1, t1⟩
    exact ⟨rfl, wt_kept t1 h.lt h.row_lt, rfl, v1, wt_box t1⟩
  rcases hcc with rfl | rfl | rfl | rfl | rfl | hi
  · simp only [ckP, Prod.mk.injEq] at hck
    have ht : r.t.size ≤ 65536 := by have := of_decide_eq_false hck.2.1; omega
    refine text_g (wrH b) g w _ E.2.1 ?_
    refine (wtext_any r.t _ g 2 (Bd.drew (h.alloc _)) ht (by omega) (hA.cell rfl) hne hgv).mono ?_
    rintro e w1 ⟨rfl, v1, t1⟩
    exact ⟨rfl, wt_kept t1 h.lt h.row_lt, rfl, v1, wt_box t1⟩
  · simp only [ckP, Prod.mk.injEq] at hck
    exact hits hck.2.2
  · simp only [ckP, Prod.mk.injEq] at hck
    exact hits hck.2.2
  · simp only [ckP, Prod.mk.injEq] at hck
    exact nums hck.1
  · simp only [ckP, Prod.mk.injEq] at hck
    exact nums hck.1
  · have e6 : wrP i r L = [] := by unfold wrP; split <;> simp_all
    rw [rpF_none hi, e6, List.append_nil]
    exact nothingTold_g (wrH b) g w _ ⟨rfl, v, h.alloc _, (Stay.refl _ w).alloc _, fun k hk => .inl hk⟩
/-- What is left of a reply when what is named is cleared. -/
def lfN (i : Nat) (r : Rp) : Int := if r.e = 0 ∧ (i = 5 ∨ i = 7) then 0 else r.n
def lfT (i : Nat) (r : Rp) : ByteArray := if r.e = 0 ∧ i = 2 then eB else r.t
def lfS (i : Nat) (r : Rp) (x : Option Addr × Nat × Nat) : Option Addr × Nat × Nat := if r.e = 0 ∧ (i = 3 ∨ i = 4) then (none, 0, 0) else x
def stP (i : Nat) (r : Rp) (l : Nat) : Bool := decide (lfN i r ≠ 0) || (decide (lfT i r ≠ eB) || decide (0 < (lfS i r (none, l, 0)).2.1))
theorem clP_lf (i : Nat) (r : Rp) (a : Option Addr) (l c : Nat) (h : r.e = 0) : clP i r (.slice a l c) = #[.int .i64 r.e, .int .i64 (lfN i r), .string (lfT i r), .slice (lfS i r (a, l, c)).1 (lfS i r (a, l, c)).2.1 (lfS i r (a, l, c)).2.2] := by
  have hc : i = 2 ∨ i = 3 ∨ i = 4 ∨ i = 5 ∨ i = 7 ∨ ¬ (i = 2 ∨ i = 3 ∨ i = 4 ∨ i = 5 ∨ i = 7) := by omega
  rcases hc with rfl | rfl | rfl | rfl | rfl | hi
  · simp [clP, lfN, lfT, lfS, h]
  · simp [clP, lfN, lfT, lfS, h]
  · simp [clP, lfN, lfT, lfS, h]
  · simp [clP, lfN, lfT, lfS, h]
  · simp [clP, lfN, lfT, lfS, h]
  · have e6 : clP i r (.slice a l c) = rpC r (.slice a l c) := by unfold clP; split <;> simp_all
    rw [e6]
    have n2 : ¬ i = 2 := fun e => hi (.inl e)
    have n3 : ¬ (i = 3 ∨ i = 4) := fun e => hi (by rcases e with e | e <;> simp [e])
    have n5 : ¬ (i = 5 ∨ i = 7) := fun e => hi (by rcases e with e | e <;> simp [e])
    simp [lfN, lfT, lfS, n2, n3, n5]
theorem lf_none (i : Nat) (r : Rp) (a : Option Addr) (l c : Nat) (h : r.e ≠ 0) : rpC r (.slice a l c) = #[.int .i64 r.e, .int .i64 (lfN i r), .string (lfT i r), .slice (lfS i r (a, l, c)).1 (lfS i r (a, l, c)).2.1 (lfS i r (a, l, c)).2.2] := by
  simp [lfN, lfT, lfS, h]
theorem stO_new (w : World) (m f1 f2 : Nat) (r : Rp) (a : Option Addr) (l c : Nat) : HC ((w.alloc (.cells #[.int .i64 m, Fv f1 #[], Fv f2 #[]] 64)).alloc (.cells #[.int .i64 r.e, .int .i64 r.n, .string r.t, .slice a l c] 29)) w.heap.size #[.int .i64 m, Fv f1 #[], Fv f2 #[]] 64 ∧ HC ((w.alloc (.cells #[.int .i64 m, Fv f1 #[], Fv f2 #[]] 64)).alloc (.cells #[.int .i64 r.e, .int .i64 r.n, .string r.t, .slice a l c] 29)) (w.heap.size + 1) (rpC r (.slice a l c)) 29 ∧ Below w.heap.size w ((w.alloc (.cells #[.int .i64 m, Fv f1 #[], Fv f2 #[]] 64)).alloc (.cells #[.int .i64 r.e, .int .i64 r.n, .string r.t, .slice a l c] 29)) := by
  refine ⟨HC.alloc (HC.new w _ _) _, ?_, ((Below.refl _ w).alloc (Nat.le_refl _) _).alloc (by simp) _⟩
  have := HC.new (w.alloc (.cells #[.int .i64 m, Fv f1 #[], Fv f2 #[]] 64)) (rpC r (.slice a l c)) 29
  have e : (w.alloc (.cells #[.int .i64 m, Fv f1 #[], Fv f2 #[]] 64)).heap.size = w.heap.size + 1 := by simp
  rw [e] at this
  exact this
/-- What is named is cleared: the operation's own call. -/
theorem named_clear (i : Nat) (r : Rp) (a : Option Addr) (l c : Nat) (w : World) (g : Nat) (hg : HC w g (rpC r (.slice a l c)) 29) :
    Calls Try.prog 25 #[opV i, Pt g, clH.v] w fun e w' => e = Un ∧ HC w' g #[.int .i64 r.e, .int .i64 (lfN i r), .string (lfT i r), .slice (lfS i r (a, l, c)).1 (lfS i r (a, l, c)).2.1 (lfS i r (a, l, c)).2.2] 29 ∧ Stay (· = g) w w' := by
  refine named_g (i + 1) (rqF i) (rpF i) clH g w r.e _ (rpF_ent i) (hg.cell rfl) (fun h => ?_) (fun h => ?_)
  · refine (rp_clear i r a l c _ g (HC.alloc (hg.alloc _) _)).mono ?_
    rintro e w1 ⟨rfl, g1, s1⟩
    rw [clP_lf i r a l c h] at g1
    exact ⟨rfl, rfl, g1, (((Stay.refl _ w).alloc _).alloc _).trans s1⟩
  · refine ⟨rfl, ?_, ((Stay.refl _ w).alloc _).alloc _⟩
    rw [← lf_none i r a l c h]
    exact HC.alloc (hg.alloc _) _
set_option maxHeartbeats 4000000 in
set_option maxRecDepth 100000 in
theorem straysOf_any (i : Nat) (r : Rp) (a : Option Addr) (l c : Nat) (w : World) :
    Calls Try.prog 41 #[opV i, .agg (rpC r (.slice a l c))] w fun e w' => e = .returned (.bool (stP i r l)) ∧ Below w.heap.size w w' := by
  have hnc := fun W g hW => named_clear i r a l c W g hW
  have hlen : (lfS i r (a, l, c)).2.1 = (lfS i r (none, l, 0)).2.1 := by unfold lfS; split <;> rfl
  have hst : stP i r l = (decide (lfN i r ≠ 0) || (decide (lfT i r ≠ eB) || decide (0 < (lfS i r (a, l, c)).2.1))) := by unfold stP; rw [hlen]
  rw [hst]
  obtain ⟨n', hn'⟩ : ∃ n', n' = lfN i r := ⟨_, rfl⟩
  obtain ⟨t', ht'⟩ : ∃ t', t' = lfT i r := ⟨_, rfl⟩
  obtain ⟨a', l', c', hs'⟩ : ∃ a' l' c', lfS i r (a, l, c) = (a', l', c') := ⟨_, _, _, rfl⟩
  obtain ⟨f1, hf1⟩ : ∃ f, f = rqF i := ⟨_, rfl⟩
  obtain ⟨f2, hf2⟩ : ∃ f, f = rpF i := ⟨_, rfl⟩
  obtain ⟨m, hm⟩ : ∃ m, m = i + 1 := ⟨_, rfl⟩
  obtain ⟨h1, h2, h3⟩ := stO_new w m f1 f2 r a l c
  simp only [opV, ← hf1, ← hf2, ← hm, ← hn', ← ht', hs'] at hnc ⊢
  obtain ⟨V, hV⟩ : ∃ V, V = ((w.alloc (.cells #[.int .i64 m, Fv f1 #[], Fv f2 #[]] 64)).alloc (.cells #[.int .i64 r.e, .int .i64 r.n, .string r.t, .slice a l c] 29)) := ⟨_, rfl⟩
  rw [← hV] at h1 h2 h3
  have hV5 : ((w.alloc (.cells #[.int .i64 m, Fv f1 #[], Fv f2 #[]] 64)).alloc (.cells #[.int .i64 r.e, .int .i64 r.n, .string r.t, .slice a l c] 29)) = V := hV.symm
  obtain ⟨ob, hob⟩ : ∃ ob, ob = w.heap.size := ⟨_, rfl⟩
  obtain ⟨g, hg⟩ : ∃ g, g = w.heap.size + 1 := ⟨_, rfl⟩
  have hgo : ob ≠ g := by omega
  have HC' := Hid.mk hnc
  have HG := Hid.mk (And.intro hob hg)
  obtain ⟨X, hX⟩ : ∃ X, X = (decide (n' ≠ 0) || (decide (t' ≠ eB) || decide (0 < l'))) := ⟨_, rfl⟩
  rw [← hX]
  have HX := Hid.mk hX
  clear hnc hn' ht' hs' hlen hst hf1 hf2 hm hV hX
  go_enter Try.func41, Try.ntmps41
  go_wp2
  try rw [hV5]
  simp only [← hg]
  simp only [← hob]
  rw [← hob] at h1
  rw [← hg] at h2
  have c0 : V.cell? ⟨ob, 0, none⟩ = some (.int .i64 m) := h1.cell rfl
  have c1 : V.cell? ⟨ob, 1, none⟩ = some (Fv f1 #[]) := h1.cell rfl
  have c2 : V.cell? ⟨ob, 2, none⟩ = some (Fv f2 #[]) := h1.cell rfl
  have H0 := Hid.mk (And.intro h1 (And.intro h2 h3))
  clear h1 h2 h3 hob hg hV5
  refine wp_region_held_drew (S := fun w' => w'.cell? ⟨ob, 0, none⟩ = some (.int .i64 m) ∧ w'.cell? ⟨ob, 1, none⟩ = some (Fv f1 #[]) ∧ w'.cell? ⟨ob, 2, none⟩ = some (Fv f2 #[])) (by kernel_rfl) ?_ (fun hHeld => ?_)
  · exact ⟨c0, c1, c2⟩
  refine wpAnyH_take (i := 0) (oi := { dst := some 5, op := Op.load 64 (Operand.tmp 2), type := 64, pos := "operations.go:98", after := #[], guard := none }) (v := ?vb0) rfl (by kernel_rfl) (by kernel_rfl) (by kernel_rfl) (fun _ _ _ h => h) (Or.inl ⟨by rfl, ?hb0⟩) (by assumption) ?rb0
  case hb0 => (intro w0 hSw; (try dsimp only at hSw); go_simp; try (with_reducible rfl))
  simp only [Act.put, List.setIfInBounds_toArray, List.set_cons_zero, List.set_cons_succ]
  refine wpAnyH_ready (rs := [1]) (by kernel_rfl) (by simp) ?_
  refine AllReadyH.cons rfl (fun K hK => ?_) AllReadyH.nil
  go_simp
  go_wp2_with (first | (go_at_call 54; refine (clH_any _).mono ?_; rintro e w5 ⟨rfl, b5⟩; have h5 := HC.below (HC.drew H0.out.1) b5; have g5 := HC.below (HC.drew H0.out.2.1) b5; clear c0 c1 c2; have c0 : w5.cell? ⟨ob, 0, none⟩ = some (.int .i64 m) := h5.cell rfl; have c1 : w5.cell? ⟨ob, 1, none⟩ = some (Fv f1 #[]) := h5.cell rfl; have c2 : w5.cell? ⟨ob, 2, none⟩ = some (Fv f2 #[]) := h5.cell rfl; have H5 := Hid.mk (And.intro h5 (And.intro g5 b5)); clear h5 g5 b5) | (go_at_call 25; refine (HC'.out _ g H5.out.2.1).mono ?_; rintro e w6 ⟨rfl, g6, s6⟩; have h6 := H5.out.1.stay s6 hgo; clear c0 c1 c2; have c0 : w6.cell? ⟨ob, 0, none⟩ = some (.int .i64 m) := h6.cell rfl; have c1 : w6.cell? ⟨ob, 1, none⟩ = some (Fv f1 #[]) := h6.cell rfl; have c2 : w6.cell? ⟨ob, 2, none⟩ = some (Fv f2 #[]) := h6.cell rfl; have H6 := Hid.mk (And.intro h6 (And.intro g6 s6)); clear h6 g6 s6))
  refine hK.out _ _ ?_ (fun hHeld => ?_)
  · exact ⟨c0, c1, c2⟩
  clear hK K
  refine wpAnyH_ready (rs := [2]) (by kernel_rfl) (by simp) ?_
  refine AllReadyH.cons rfl (fun K hK => ?_) AllReadyH.nil
  go_simp
  go_wp2_with (first | (go_at_call 54; refine (clH_any _).mono ?_; rintro e w5 ⟨rfl, b5⟩; have h5 := HC.below (HC.drew H0.out.1) b5; have g5 := HC.below (HC.drew H0.out.2.1) b5; clear c0 c1 c2; have c0 : w5.cell? ⟨ob, 0, none⟩ = some (.int .i64 m) := h5.cell rfl; have c1 : w5.cell? ⟨ob, 1, none⟩ = some (Fv f1 #[]) := h5.cell rfl; have c2 : w5.cell? ⟨ob, 2, none⟩ = some (Fv f2 #[]) := h5.cell rfl; have H5 := Hid.mk (And.intro h5 (And.intro g5 b5)); clear h5 g5 b5) | (go_at_call 25; refine (HC'.out _ g H5.out.2.1).mono ?_; rintro e w6 ⟨rfl, g6, s6⟩; have h6 := H5.out.1.stay s6 hgo; clear c0 c1 c2; have c0 : w6.cell? ⟨ob, 0, none⟩ = some (.int .i64 m) := h6.cell rfl; have c1 : w6.cell? ⟨ob, 1, none⟩ = some (Fv f1 #[]) := h6.cell rfl; have c2 : w6.cell? ⟨ob, 2, none⟩ = some (Fv f2 #[]) := h6.cell rfl; have H6 := Hid.mk (And.intro h6 (And.intro g6 s6)); clear h6 g6 s6))
  refine hK.out _ _ ?_ (fun hHeld => ?_)
  · exact ⟨c0, c1, c2⟩
  clear hK K
  refine wpAnyH_done (by kernel_rfl) ?_ _
  have y1 : w6.cell? ⟨g, 1, none⟩ = some (.int .i64 n') := H6.out.2.1.cell rfl
  have y2 : w6.cell? ⟨g, 2, none⟩ = some (.string t') := H6.out.2.1.cell rfl
  have y3 : w6.cell? ⟨g, 3, none⟩ = some (.slice a' l' c') := H6.out.2.1.cell rfl
  have HB : Hid (Below w.heap.size w w6) := Stay.toBelow (F := fun k => w.heap.size ≤ k) (((Stay.below H0.out.2.2).drew.trans (.below H5.out.2.2)).andThen H6.out.2.2 (fun i hi e => by have := HG.out; omega)) (fun k hk h => by omega) (Nat.le_refl _)
  by_cases hn : n' = 0
  · by_cases ht : t' = eB
    · subst hn
      subst ht
      by_cases hl : 0 < l'
      · have hl' : (0 : Int) < (l' : Int) := by omega
        have hXt : X = true := by rw [HX.out]; simp [hl]
        subst hXt
        clear HX
        go_wp2
        go_ret
        exact ⟨rfl, HB.out⟩
      · have hl' : ¬ (0 : Int) < (l' : Int) := by omega
        have hXt : X = false := by rw [HX.out]; simp; omega
        subst hXt
        clear HX
        go_wp2
        go_ret
        exact ⟨rfl, HB.out⟩
    · have hXt : X = true := by rw [HX.out]; simp [ht]
      have ht2 : ¬ t'.toList = [] := fun h => by
        rw [ByteArray.toList_eq] at h
        exact ht (ByteArray.ext (Array.toList_inj.1 h))
      subst hXt
      subst hn
      clear HX
      go_wp2
      go_ret
      exact ⟨rfl, HB.out⟩
  · have hXt : X = true := by rw [HX.out]; simp [hn]
    subst hXt
    clear HX
    go_wp2
    go_ret
    exact ⟨rfl, HB.out⟩
end Go.Proofs.Ytjdknijjkjmafaa
