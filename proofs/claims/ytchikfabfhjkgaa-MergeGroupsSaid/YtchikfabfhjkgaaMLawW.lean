/-
  DERIVED. MergeLastWord: the walk.
-/
import Derived.Test.YtchikfabfhjkgaaMDealt
import Derived.Test.YtchikfabfhjkgaaMFresh
import Derived.Test.YtchikfabfhjkgaaMLast
import Derived.Test.YtchikfabfhjkgaaMBegun
import Derived.Test.YtchikfabfhjkgaaMOpen
set_option linter.unusedVariables false
set_option linter.unusedSimpArgs false
namespace Go.Proofs.Ytchikfabfhjkgaa
open Go.RowKit
theorem own_take {w : World} {B e sz : Nat} {a : Option Addr} {n m c : Nat} {xs : List Value} (h : w.ownsRow B e sz (.slice a n c) n xs) (hm : m ≤ n) (hx : xs.length = n * sz) : w.ownsRow B e sz (.slice a m c) m (xs.take (m * sz)) := by
  rcases h with ⟨h1, ⟨h2, h3⟩ | ⟨g, cap, cur, h2, h3, h4, h5, h6, h7, h8⟩⟩
  · simp only [Value.slice.injEq] at h2
    obtain ⟨rfl, rfl, rfl⟩ := h2
    have : m = 0 := by omega
    subst this
    exact ⟨by simp, .inl ⟨rfl, rfl⟩⟩
  · simp only [Value.slice.injEq] at h2
    obtain ⟨rfl, -, rfl⟩ := h2
    have hle : m * sz ≤ n * sz := Nat.mul_le_mul_right sz hm
    refine ⟨by rw [List.length_take, hx, Nat.min_eq_left hle], .inr ⟨g, c, cur, rfl, h3, h4, by omega, h6, h7, ?_⟩⟩
    rw [← h8, List.take_take, Nat.min_eq_left hle]
/-- What is held through the law: the fresh entries, the lists. -/
structure MW (w : World) (B : Nat) (F : List En) (fa : Option Addr) (fc : Nat) (R : List (List En)) (lv : Value) (W : World) : Prop where
  fl : W.ownsRow 0 23 5 (.slice fa F.length fc) F.length (F.flatMap enC)
  dl : DL B W lv R
  bw : Below w.heap.size w W
  lo : B ≤ W.heap.size
theorem MW.lat {w : World} {B : Nat} {F : List En} {fa : Option Addr} {fc : Nat} {R : List (List En)} {lv : Value} {W W' : World} (h : MW w B F fa fc R lv W) (b : Below W.heap.size W W') : MW w B F fa fc R lv W' :=
  ⟨row_kept h.fl (F := fun _ => False) (.below b) (fun _ _ h => h), h.dl.lat b, chain h.bw b (Nat.le_refl _), Nat.le_trans h.lo b.size⟩
theorem MW.la {w : World} {B : Nat} {F : List En} {fa : Option Addr} {fc : Nat} {R : List (List En)} {lv : Value} {W : World} (h : MW w B F fa fc R lv W) : LAt W fa F := by
  obtain ⟨a, c, e, -, hl⟩ := own_lat h.fl
  cases e
  exact hl
theorem RI.flat {all : List En} {R : List (List En)} (h : RI all all.length R) : R.flatten.Perm all := by
  have := h.perm; rwa [List.take_length] at this
/-- What the fresh entries and the lists are. -/
structure FR (F : List En) (R : List (List En)) : Prop where
  u : Uniq F
  l : F.length ≤ 60
  c : ∀ e ∈ F, e.c.size ≤ 281474976710656
  ri : RI F F.length R
  rl : R.length ≤ F.length
theorem FR.cc {F : List En} {R : List (List En)} (h : FR F R) : ∀ r ∈ R, ∀ e ∈ r, e.c.size ≤ 281474976710656 := fun r hr e he => h.c e (h.ri.flat.mem_iff.1 (List.mem_flatten.2 ⟨r, hr, he⟩))
theorem FR.uu {F : List En} {R : List (List En)} (h : FR F R) : Uniq R.flatten := (Uniq.perm h.ri.flat).2 h.u
theorem FR.short {F : List En} {R : List (List En)} (h : FR F R) : ∀ r ∈ R, r.length ≤ 60 := fun r hr => Nat.le_trans (h.ri.short r hr) h.l
theorem FR.merge {F : List En} {R : List (List En)} (h : FR F R) {w : World} {B : Nat} {fa a : Option Addr} {fc c : Nat} {W : World} (k : MW w B F fa fc R (.slice a R.length c) W) (bottom : Bool) : Calls Try.prog 24 #[.slice a R.length c, .bool bottom] W (MgO R bottom W) :=
  merge_told R a c bottom W (k.dl.ll h.short) (by have := h.rl; have := h.l; omega) h.cc (by rw [h.ri.flat.length_eq]; have := h.l; omega) h.ri.up h.uu
/-- One entry more, that is there already: refused. -/
theorem FR.seq {F : List En} {R : List (List En)} (h : FR F R) {x : En} (hx : x ∈ F) {W : World} {B : Nat} {a : Option Addr} {c : Nat} (k : DL B W (.slice a (R.length + 1) c) (R ++ [[x]])) : Calls Try.prog 24 #[.slice a (R.length + 1) c, .bool false] W fun r w' => r = .returned (.tuple #[.slice none 0 0, .int .i64 51]) ∧ Below W.heap.size W w' := by
  have e1 : (R ++ [[x]]).length = R.length + 1 := by simp
  rw [← e1] at k ⊢
  refine merge_seq (R ++ [[x]]) a c false W (k.ll (fun r hr => ?_)) (by rw [e1]; have := h.rl; have := h.l; omega) (fun r hr e he => ?_) (by rw [List.flatten_append, List.length_append, h.ri.flat.length_eq]; simp; have := h.l; omega) (fun r hr => ?_) (fun hu => ?_)
  · rcases List.mem_append.1 hr with q | q
    · exact h.short r q
    · simp at q; subst q; simp
  · rcases List.mem_append.1 hr with q | q
    · exact h.cc r q e he
    · simp at q; subst q; simp at he; subst he; exact h.c _ hx
  · rcases List.mem_append.1 hr with q | q
    · exact h.ri.up r q
    · simp at q; subst q; exact List.pairwise_singleton _ _
  · rw [List.flatten_append] at hu
    exact (List.pairwise_append.1 hu).2.2 x (h.ri.flat.mem_iff.2 hx) x (by simp) (cpE_self x) rfl
end Go.Proofs.Ytchikfabfhjkgaa
