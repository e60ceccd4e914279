/-
  DERIVED. Replies: what is named, cleared, looked at.
-/
import Derived.Test.YtjdknijjkjmafaaWHits
set_option linter.unusedVariables false
set_option linter.unusedSimpArgs false
namespace Go.Proofs.Ytjdknijjkjmafaa
open Go.RowKit Go.Proofs.SealMath
/-- A reply but its hits, which lie at v. -/
structure Rp where
  e : Int
  n : Int
  t : ByteArray
abbrev rpC (r : Rp) (v : Value) : Array Value := #[.int .i64 r.e, .int .i64 r.n, .string r.t, v]
theorem rpF_ent (i : Nat) : Ent (rpF i) := by
  have : i = 2 ∨ i = 3 ∨ i = 4 ∨ i = 5 ∨ i = 7 ∨ ¬ (i = 2 ∨ i = 3 ∨ i = 4 ∨ i = 5 ∨ i = 7) := by omega
  rcases this with rfl | rfl | rfl | rfl | rfl | h
  · intro args W; unfold rpF; kernel_rfl
  · intro args W; unfold rpF; kernel_rfl
  · intro args W; unfold rpF; kernel_rfl
  · intro args W; unfold rpF; kernel_rfl
  · intro args W; unfold rpF; kernel_rfl
  · have e : rpF i = 68 := by unfold rpF; split <;> simp_all
    rw [e]
    intro args W; kernel_rfl
set_option maxHeartbeats 4000000 in
set_option maxRecDepth 100000 in
theorem named_g (m f1 f2 : Nat) (H : Hn) (g : Nat) (w : World) (code : Int) (R : Ending → World → Prop) (ent : Ent f2) (hc : w.cell? ⟨g, 0, none⟩ = some (.int .i64 code))
    (h1 : code = 0 → Calls Try.prog f2 #[Pt g, H.v] ((w.alloc (.cells #[.int .i64 m, Fv f1 #[], Fv f2 #[]] 64)).alloc H.box) fun e w' => e = Un ∧ R Un w')
    (h2 : code ≠ 0 → R Un ((w.alloc (.cells #[.int .i64 m, Fv f1 #[], Fv f2 #[]] 64)).alloc H.box)) :
    Calls Try.prog 25 #[.agg #[.int .i64 m, Fv f1 #[], Fv f2 #[]], Pt g, H.v] w R := by
  unfold Ent at ent
  have gl := World.block_lt_of_cell? w _ hc
  have k0 : HC ((w.alloc (.cells #[.int .i64 m, Fv f1 #[], Fv f2 #[]] 64)).alloc H.box) w.heap.size #[.int .i64 m, Fv f1 #[], Fv f2 #[]] 64 := HC.alloc (HC.new w _ _) _
  have k1 : ((w.alloc (.cells #[.int .i64 m, Fv f1 #[], Fv f2 #[]] 64)).alloc H.box).heap[w.heap.size + 1]? = some H.box := by
    have := heap_alloc_last (w.alloc (.cells #[.int .i64 m, Fv f1 #[], Fv f2 #[]] 64)) H.box
    have e : (w.alloc (.cells #[.int .i64 m, Fv f1 #[], Fv f2 #[]] 64)).heap.size = w.heap.size + 1 := by simp
    rw [e] at this
    exact this
  have bA : Below w.heap.size w ((w.alloc (.cells #[.int .i64 m, Fv f1 #[], Fv f2 #[]] 64)).alloc H.box) := ((Below.refl _ w).alloc (Nat.le_refl _) _).alloc (by simp) _
  have c0 := cell_below bA hc
  obtain ⟨F1, F2, F3, A⟩ := H
  obtain ⟨b0, b1, b2⟩ := box_cell k1
  have o2 : ((w.alloc (.cells #[.int .i64 m, Fv f1 #[], Fv f2 #[]] 64)).alloc (Hn.box ⟨F1, F2, F3, A⟩)).cell? ⟨w.heap.size, 2, none⟩ = some (Fv f2 #[]) := k0.cell rfl
  obtain ⟨V, hV⟩ : ∃ V, V = (w.alloc (.cells #[.int .i64 m, Fv f1 #[], Fv f2 #[]] 64)).alloc (Hn.box ⟨F1, F2, F3, A⟩) := ⟨_, rfl⟩
  rw [← hV] at c0 b0 b1 b2 o2 h1 h2
  have hV5 : (w.alloc (.cells #[.int .i64 m, Fv f1 #[], Fv f2 #[]] 64)).alloc (.cells #[Fv F1 A, Fv F2 A, Fv F3 A] 73) = V := hV.symm
  have H1 := Hid.mk h1
  have H2 := Hid.mk h2
  clear h1 h2 hV k0 k1 bA hc
  by_cases hc : code = 0
  · have H3 := Hid.mk (H1.out hc)
    subst hc
    clear H1 H2
    go_enter Try.func25, Try.ntmps25
    go_wp2_with (go_at_fn f2; (try rw [hV5]); refine H3.out.mono ?_; rintro e w1 ⟨rfl, r1⟩; have HR := Hid.mk r1; clear r1)
    first | go_end0 | refine bodyPost_ret (results_none rfl _ _ _) rfl ?_
    exact HR.out
  · have H3 := Hid.mk (H2.out hc)
    clear H1 H2
    go_enter Try.func25, Try.ntmps25
    go_wp2
    first | go_end0 | refine bodyPost_ret (results_none rfl _ _ _) rfl ?_
    exact H3.out
set_option maxHeartbeats 2000000 in
theorem chits_any (L : List Ht) (a : Option Addr) (cap : Nat) (lo bi : Bool) (x : Int) (w : World) (c g o : Nat) (h : CkAt w c lo bi x) (hc : w.cell? ⟨g, o, none⟩ = some (.slice a L.length cap)) (hL : HsAt w a L) (hn : L.length < 4611686018427387904) :
    Calls Try.prog 57 #[Pt c, Pc g o] w fun e w' => e = Un ∧ CkAt w' c lo bi (glE L) ∧ Stay (· = c) w w' := by
  have hk := checkHits_any L a cap w hL hn
  obtain ⟨E, hE⟩ : ∃ E, E = glE L := ⟨_, rfl⟩
  rw [← hE] at hk ⊢
  obtain ⟨n, hne⟩ : ∃ n, n = L.length := ⟨_, rfl⟩
  rw [← hne] at hk hc
  have HH := Hid.mk h
  clear h hE hne hL hn
  go_enter Try.func57, Try.ntmps57
  go_wp2_with (go_at_call 79; refine hk.mono ?_; clear hk; rintro e w1 ⟨rfl, b1⟩; have k1 := HC.below HH.out b1; have c2 : w1.cell? ⟨c, 2, none⟩ = some (.int .i64 x) := k1.cell rfl; have z2 := k1.free 2; have H1 := Hid.mk (And.intro k1 b1); clear k1 b1)
  first | go_end0 | refine bodyPost_ret (results_none rfl _ _ _) rfl ?_
  exact ⟨rfl, HC.set H1.out.1 2 _, Stay.setCell (F := (· = c)) (Stay.below H1.out.2) (p := ⟨c, 2, none⟩) (fun _ => rfl) _⟩
/-- What operation i + 1 names of a reply is cleared. -/
def clP (i : Nat) (r : Rp) (v : Value) : Array Value :=
  match i with
  | 2 => #[.int .i64 r.e, .int .i64 r.n, .string eB, v]
  | 3 => #[.int .i64 r.e, .int .i64 r.n, .string r.t, .slice none 0 0]
  | 4 => #[.int .i64 r.e, .int .i64 r.n, .string r.t, .slice none 0 0]
  | 5 => #[.int .i64 r.e, .int .i64 0, .string r.t, v]
  | 7 => #[.int .i64 r.e, .int .i64 0, .string r.t, v]
  | _ => rpC r v
theorem rpF_none {i : Nat} (h : ¬ (i = 2 ∨ i = 3 ∨ i = 4 ∨ i = 5 ∨ i = 7)) : rpF i = 68 := by unfold rpF; split <;> simp_all
theorem rp_clear (i : Nat) (r : Rp) (a : Option Addr) (l c : Nat) (w : World) (g : Nat) (hg : HC w g (rpC r (.slice a l c)) 29) :
    Calls Try.prog (rpF i) #[Pt g, clH.v] w fun e w' => e = Un ∧ HC w' g (clP i r (.slice a l c)) 29 ∧ Stay (· = g) w w' := by
  have lg := HC.lt hg
  have E := clH_ent
  have hA : HC (w.alloc clH.box).drew g (rpC r (.slice a l c)) 29 := HC.drew (hg.alloc _)
  have nF : ¬ w.heap.size = g := by omega
  have hc : i = 2 ∨ i = 3 ∨ i = 4 ∨ i = 5 ∨ i = 7 ∨ ¬ (i = 2 ∨ i = 3 ∨ i = 4 ∨ i = 5 ∨ i = 7) := by omega
  rcases hc with rfl | rfl | rfl | rfl | rfl | hi
  · refine text_g clH g w _ E.2.1 ?_
    refine (clr2_any _ g 2 _ _ r.t hA rfl).mono ?_
    rintro e w1 ⟨rfl, g1, s1⟩
    exact ⟨rfl, bx_kept s1 nF, rfl, g1, bx_stay s1⟩
  · refine hits_g clH g w _ E.2.2 ?_
    refine (clr3_any _ g 3 _ _ a l c hA rfl).mono ?_
    rintro e w1 ⟨rfl, g1, s1⟩
    exact ⟨rfl, bx_kept s1 nF, rfl, g1, bx_stay s1⟩
  · refine hits_g clH g w _ E.2.2 ?_
    refine (clr3_any _ g 3 _ _ a l c hA rfl).mono ?_
    rintro e w1 ⟨rfl, g1, s1⟩
    exact ⟨rfl, bx_kept s1 nF, rfl, g1, bx_stay s1⟩
  · refine number_g clH g w _ E.1 ?_
    refine (clr1_any _ g 1 _ _ r.n hA rfl).mono ?_
    rintro e w1 ⟨rfl, g1, s1⟩
    exact ⟨rfl, bx_kept s1 nF, rfl, g1, bx_stay s1⟩
  · refine number_g clH g w _ E.1 ?_
    refine (clr1_any _ g 1 _ _ r.n hA rfl).mono ?_
    rintro e w1 ⟨rfl, g1, s1⟩
    exact ⟨rfl, bx_kept s1 nF, rfl, g1, bx_stay s1⟩
  · have e6 : clP i r (.slice a l c) = rpC r (.slice a l c) := by unfold clP; split <;> simp_all
    rw [rpF_none hi, e6]
    exact nothingTold_g clH g w _ ⟨rfl, hg.alloc _, (Stay.refl _ w).alloc _⟩
/-- .. is looked at. -/
def ckP (i : Nat) (r : Rp) (L : List Ht) : Bool × Bool × Int :=
  match i with
  | 2 => (false, decide (65536 < r.t.size), 0)
  | 3 => (false, false, glE L)
  | 4 => (false, false, glE L)
  | 5 => (decide (r.n < 0), false, 0)
  | 7 => (decide (r.n < 0), false, 0)
  | _ => (false, false, 0)
theorem HsAt.below {w w' : World} {a : Option Addr} {L : List Ht} (h : HsAt w a L) (b : Below w.heap.size w w') : HsAt w' a L := by
  rcases h with h | ⟨g, off, e, hg, hc⟩
  · exact .inl h
  · exact .inr ⟨g, off, e, Nat.lt_of_lt_of_le hg b.size, fun i hi => by
      obtain ⟨c0, c1, c2⟩ := hc i hi
      exact ⟨cell_below b c0, cell_below b c1, cell_below b c2⟩⟩
theorem rp_check (i : Nat) (r : Rp) (L : List Ht) (a : Option Addr) (cap : Nat) (w : World) (c g : Nat) (hg : HC w g (rpC r (.slice a L.length cap)) 29) (h : CkAt w c false false 0) (hL : HsAt w a L) (hn : L.length < 4611686018427387904) :
    Calls Try.prog (rpF i) #[Pt g, (ckH c).v] w fun e w' => e = Un ∧ CkAt w' c (ckP i r L).1 (ckP i r L).2.1 (ckP i r L).2.2 ∧ Stay (· = c) w w' := by
  have lg := HC.lt hg
  have lc := HC.lt h
  have E := ckH_ent c
  have hA : HC (w.alloc (ckH c).box).drew g (rpC r (.slice a L.length cap)) 29 := HC.drew (hg.alloc _)
  have cA : CkAt (w.alloc (ckH c).box).drew c false false 0 := HC.drew (h.alloc _)
  have bA' : Below w.heap.size w (w.alloc (ckH c).box) := (Below.refl _ w).alloc (Nat.le_refl _) _
  have bA : Below w.heap.size w (w.alloc (ckH c).box).drew := ⟨bA'.os, bA'.tape, bA'.output, bA'.size, bA'.block⟩
  have nF : ¬ w.heap.size = c := by omega
  have hc : i = 2 ∨ i = 3 ∨ i = 4 ∨ i = 5 ∨ i = 7 ∨ ¬ (i = 2 ∨ i = 3 ∨ i = 4 ∨ i = 5 ∨ i = 7) := by omega
  rcases hc with rfl | rfl | rfl | rfl | rfl | hi
  · refine text_g (ckH c) g w _ E.2.1 ?_
    refine (ctext_any r.t _ _ _ _ c g 2 cA (hA.cell rfl)).mono ?_
    rintro e w1 ⟨rfl, g1, s1⟩
    exact ⟨rfl, bx_kept s1 nF, rfl, by simpa [ckP] using g1, bx_stay s1⟩
  · refine hits_g (ckH c) g w _ E.2.2 ?_
    refine (chits_any L a cap _ _ _ _ c g 3 cA (hA.cell rfl) (hL.below bA) hn).mono ?_
    rintro e w1 ⟨rfl, g1, s1⟩
    exact ⟨rfl, bx_kept s1 nF, rfl, g1, bx_stay s1⟩
  · refine hits_g (ckH c) g w _ E.2.2 ?_
    refine (chits_any L a cap _ _ _ _ c g 3 cA (hA.cell rfl) (hL.below bA) hn).mono ?_
    rintro e w1 ⟨rfl, g1, s1⟩
    exact ⟨rfl, bx_kept s1 nF, rfl, g1, bx_stay s1⟩
  · refine number_g (ckH c) g w _ E.1 ?_
    refine (cnumber_any r.n _ _ _ _ c g 1 cA (hA.cell rfl)).mono ?_
    rintro e w1 ⟨rfl, g1, s1⟩
    exact ⟨rfl, bx_kept s1 nF, rfl, by simpa [ckP] using g1, bx_stay s1⟩
  · refine number_g (ckH c) g w _ E.1 ?_
    refine (cnumber_any r.n _ _ _ _ c g 1 cA (hA.cell rfl)).mono ?_
    rintro e w1 ⟨rfl, g1, s1⟩
    exact ⟨rfl, bx_kept s1 nF, rfl, by simpa [ckP] using g1, bx_stay s1⟩
  · have e6 : ckP i r L = (false, false, 0) := by unfold ckP; split <;> simp_all
    rw [rpF_none hi, e6]
    exact nothingTold_g (ckH c) g w _ ⟨rfl, h.alloc _, (Stay.refl _ w).alloc _⟩
end Go.Proofs.Ytjdknijjkjmafaa
