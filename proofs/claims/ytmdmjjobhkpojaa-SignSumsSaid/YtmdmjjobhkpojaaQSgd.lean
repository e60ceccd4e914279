/-
  DERIVED. sign: the laws' helpers signed, begun.
-/
import Derived.Test.YtmdmjjobhkpojaaQLaw1
set_option linter.unusedVariables false
set_option linter.unusedSimpArgs false
namespace Go.Proofs.Ytmdmjjobhkpojaa
open Go.RowKit Go.Shelf Go.Proofs.BitMath Go.Proofs.FloatMath
theorem results_tmp4 {fn : Func} {t u v x : Tmp} (h : fn.results = #[.tmp t, .tmp u, .tmp v, .tmp x]) (tmps : Array Value) (P : Program) (w : World) :
    (results fn tmps).run P w = .ok (.tuple #[tmps.getD t undef, tmps.getD u undef, tmps.getD v undef, tmps.getD x undef]) w := by
  simp [results, h]
theorem sg_new (w : World) (x d : Nat) (sd : Int) : SgAt (w.alloc (.cells #[.int .i64 x, .int .i64 d, .int .u64 sd] 60)) w.heap.size x d sd :=
  ⟨cells_new w [.int .i64 x, .int .i64 d, .int .u64 sd] 60 0 _ rfl, cells_new w [.int .i64 x, .int .i64 d, .int .u64 sd] 60 1 _ rfl, cells_new w [.int .i64 x, .int .i64 d, .int .u64 sd] 60 2 _ rfl⟩
/-- The code of a vector that goes. -/
def cdS (wd : Nat) (sd : Int) (v : List Zp) : ByteArray := ⟨(codeL (sumsL wd sd v) (wd / 8)).toArray⟩
theorem cdS_size (wd : Nat) (sd : Int) (v : List Zp) : (cdS wd sd v).size = wd / 8 := by
  show (codeL (sumsL wd sd v) (wd / 8)).toArray.size = _
  simp [codeL, byT_len]
theorem ckE_ok {v : List Zp} (h : v.all okP = true) : ckE v.length v = 0 := by simp [ckE, h]
theorem sums_ok (b wd dm m : Nat) (sd : Int) (la : Option Addr) (c : Nat) (v : List Zp) (w : World) (hs : SgAt w b wd dm sd) (hd : 0 < dm) (hd2 : dm ≤ 1024) (hw : 2 ≤ wd) (hw2 : wd ≤ 1024) (hv : zE.At w la v) (hk : ckE dm v = 0) (em : wd / 2 = m) (R : Ending → World → Prop)
    (hR : ∀ g cap w', w.heap.size ≤ g → zE.Row w' (.slice (some ⟨g, 0, none⟩) m cap) (sumsL wd sd v) → Below w.heap.size w w' → R (.returned (.tuple #[.slice (some ⟨g, 0, none⟩) m cap, .int .i64 0])) w') :
    Calls Try.prog 16 #[Pt b, .slice la v.length c] w R := by
  refine sums_any b wd dm sd la c v w hs hd hd2 hw hw2 hv R ?_
  intro e w' hO hb
  rcases hO with ⟨h, -⟩ | ⟨g, cap, h, hg, hr, rfl⟩
  · exact absurd hk h
  · subst em
    exact hR g cap w' hg hr hb
/-- What signed tells of a vector that goes. -/
structure SgdO (wd : Nat) (sd : Int) (v : List Zp) (w : World) (e : Ending) (w' : World) : Prop where
  ret : ∃ s g cap, e = .returned (.tuple #[Pt s, .slice (some ⟨g, 0, none⟩) (wd / 2) cap, .string (cdS wd sd v), .bool true]) ∧ w.heap.size ≤ g ∧ zE.Row w' (.slice (some ⟨g, 0, none⟩) (wd / 2) cap) (sumsL wd sd v)
  bel : Below w.heap.size w w'
set_option maxRecDepth 100000 in
set_option maxHeartbeats 4000000 in
theorem signed_any (wd : Nat) (sd : Int) (la : Option Addr) (c : Nat) (v : List Zp) (w : World) (h64 : 64 ≤ wd) (h1024 : wd ≤ 1024) (hm : wd % 64 = 0) (hv : zE.At w la v) (h1 : 1 ≤ v.length) (h2 : v.length ≤ 1024) (hok : v.all okP = true) :
    Calls Try.prog 11 #[.int .i64 wd, .int .u64 sd, .slice la v.length c] w (SgdO wd sd v w) := by
  have hnw : nwE (wd : Int) (v.length : Int) = 0 := by
    have hw : isW (wd : Int) = true := by simp [isW]; omega
    unfold nwE; rw [if_pos hw, if_pos (by omega)]
  have hA := hv.below ((Below.refl _ w).alloc (Nat.le_refl _) (.cells #[.int .i64 wd, .int .i64 v.length, .int .u64 sd] 60))
  have hsg := sg_new w wd v.length sd
  have b1 : Below w.heap.size w (w.alloc (.cells #[.int .i64 wd, .int .i64 v.length, .int .u64 sd] 60)) := (Below.refl _ w).alloc (Nat.le_refl _) _
  have z1 : (w.alloc (.cells #[.int .i64 wd, .int .i64 v.length, .int .u64 sd] 60)).heap.size = w.heap.size + 1 := by simp
  have hck := ckE_ok hok
  have kN := new_any (wd : Int) (v.length : Int) sd w
  obtain ⟨n, en⟩ : ∃ n, v.length = n := ⟨_, rfl⟩
  rw [en] at hnw hA hsg b1 z1 hck kN h1 h2 ⊢
  obtain ⟨W1, eW⟩ : ∃ W1, w.alloc (.cells #[.int .i64 wd, .int .i64 n, .int .u64 sd] 60) = W1 := ⟨_, rfl⟩
  rw [eW] at hA hsg b1 z1 kN
  obtain ⟨m, em⟩ : ∃ m, wd / 2 = m := ⟨_, rfl⟩
  have kS := sums_ok w.heap.size wd n m sd la c v W1 hsg h1 h2 (by omega) h1024 hA hck em
  have kC : ∀ W, Below W1.heap.size W1 W → Calls Try.prog 18 #[Pt w.heap.size, .slice la v.length c] W fun e w' => e = .returned (.tuple #[.string (cdB wd n sd v), .int .i64 (ckE n v)]) ∧ Below W.heap.size W w' :=
    fun W b => code_any w.heap.size wd n sd la c v W (hsg.below b) h1 h2 h64 h1024 (by omega) (hA.below b)
  have hcd : cdB wd n sd v = cdS wd sd v := by unfold cdB; rw [if_pos hck]; rfl
  rw [en] at kS
  simp only [en, hcd, hck] at kC
  obtain ⟨q, eq⟩ : ∃ q, wd / 8 = q := ⟨_, rfl⟩
  have eI : Int.tdiv (wd : Int) 2 = (m : Int) := by rw [Int.tdiv_eq_ediv_of_nonneg (by omega)]; omega
  have eJ : Int.tdiv (wd : Int) 8 = (q : Int) := by rw [Int.tdiv_eq_ediv_of_nonneg (by omega)]; omega
  have fI : wrap64 (m : Int) = (m : Int) := by unfold wrap64; omega
  have fJ : wrap64 (q : Int) = (q : Int) := by unfold wrap64; omega
  have hcs := cdS_size wd sd v
  rw [eq] at hcs
  have HN := Hid.mk hnw
  have HC := Hid.mk hck
  have HB := Hid.mk b1
  have HZ := Hid.mk z1
  have EM := Hid.mk em
  obtain ⟨C, eC⟩ : ∃ C, cdS wd sd v = C := ⟨_, rfl⟩
  rw [eC] at kC hcs
  have EC := Hid.mk eC
  have HE := Hid.mk eW
  have HN2 := Hid.mk en
  clear hnw hck b1 z1 em eq hA hsg hok hv h1 h2 hm h64 h1024 eW en hcd eC
  go_enter Try.func11, Try.ntmps11
  go_wp2_with (first
    | (go_at_call 14; refine kN _ (fun h => absurd HN.out h) (fun _ => ?_); clear kN)
    | (go_at_call 16; refine kS _ (fun g cap w' hg hr hb => ?_); clear kS; have hc2 := kC w' hb; clear kC; have HK := Hid.mk (And.intro hg (And.intro hr hb)); clear hg hr hb)
    | (go_at_call 18; refine hc2.mono ?_; clear hc2; rintro e w2 ⟨rfl, hb2⟩; obtain ⟨D, eD⟩ : ∃ D, (wd : Int) = D := ⟨_, rfl⟩; rw [eD] at eI eJ ⊢; clear eD))
  refine bodyPost_ret (results_tmp4 rfl _ _ _) rfl ?_
  obtain ⟨hg, hr, hb⟩ := HK.out
  have hz := HZ.out
  refine ⟨⟨w.heap.size, g, cap, ?_, by omega, ?_⟩, ?_⟩
  · rw [EM.out, EC.out]; rfl
  · rw [EM.out]; exact hr.below hb2
  · exact (HB.out.trans (hb.mono HB.out.size)).trans (hb2.mono (HB.out.trans (hb.mono HB.out.size)).size)
end Go.Proofs.Ytmdmjjobhkpojaa
