/-
  DERIVED. A top in its block; a new one.
-/
import Derived.Test.YtekgppmhcbmpeaaDoorEDrop
set_option linter.unusedVariables false
set_option linter.unusedSimpArgs false
namespace Go.Proofs.YtekgppmhcbmpeaaDoor
open Go.RowKit
/-- What is kept by something new. -/
def FreshK (w w' : World) (kp : Nat) : Prop := (∀ k, Ft w' kp k → w.heap.size ≤ k) ∧ Below w.heap.size w w'
set_option maxRecDepth 100000 in
theorem newKept_any (w : World) : Calls Tryd.prog 47 #[] w fun r w' => ∃ kp, r = .returned (Pk kp) ∧ KK w' kp [] ∧ FreshK w w' kp := by
  have hmf : ∀ (fn : Fn) (first cap : Array Value) (w : World), (Instr.makeFunc fn first cap).run Tryd.prog w = .ok (.func fn first cap) w := fun _ _ _ _ => rfl
  have hmm := @run_makeMap Tryd.prog
  go_enter Tryd.func47, Tryd.ntmps47
  go_wp2
  go_ret
  have b1 : Below w.heap.size w (w.alloc (.map #[] 0)) := (Below.refl _ w).alloc (Nat.le_refl _) _
  have b2 := (Below.refl (w.alloc (.map #[] 0)).heap.size (w.alloc (.map #[] 0))).alloc (Nat.le_refl _) (.cells #[cmpF, .slice none 0 0, .map (some w.heap.size), .int .i64 0] 97)
  have hk : Kp ((w.alloc (.map #[] 0)).alloc (.cells #[cmpF, .slice none 0 0, .map (some w.heap.size), .int .i64 0] 97)) (w.heap.size + 1) (.slice none 0 0) w.heap.size 0 := by
    have := heap_alloc_last (w.alloc (.map #[] 0)) (.cells #[cmpF, .slice none 0 0, .map (some w.heap.size), .int .i64 0] 97)
    rw [show (w.alloc (.map #[] 0)).heap.size = w.heap.size + 1 by simp] at this
    exact this
  refine ⟨w.heap.size + 1, rfl, ⟨w.heap.size, .slice none 0 0, 0, [], hk, ⟨rfl, .inl ⟨rfl, rfl⟩⟩, (MS.made w).block (b2.block _ (by simp)), .refl _, fun j _ h => by simp at h, fun x h => by simp at h, by simp [Srt], Int.le_refl _, by simp, by simp⟩, fun k h => ?_, chain b1 b2 (Nat.le_refl _)⟩
  rcases (hk.ft k).1 h with e | e | e
  · omega
  · cases e
  · omega
/-- A top in its block. -/
def TopAt (W : World) (t k kp : Nat) : Prop := W.heap[t]? = some (.cells #[.int .i64 k, Pk kp] 93 (0, 0))
theorem TopAt.cells {W : World} {t k kp : Nat} (h : TopAt W t k kp) : W.cell? ⟨t, 0, none⟩ = some (.int .i64 k) ∧ W.cell? ⟨t, 1, none⟩ = some (Pk kp) :=
  ⟨by rw [cell_of_row _ _ 0 _ _ (0, 0) h]; rfl, by rw [cell_of_row _ _ 1 _ _ (0, 0) h]; rfl⟩
theorem TopAt.lt {W : World} {t k kp : Nat} (h : TopAt W t k kp) : t < W.heap.size := (Array.getElem?_eq_some_iff.1 h).1
/-- A top keeps these. -/
def TT (W : World) (t k kp : Nat) (X : List Ht) : Prop := TopAt W t k kp ∧ KK W kp X ∧ X.length ≤ k ∧ k ≤ 4096
theorem KK.top {W : World} {t k kp kq : Nat} {X : List Ht} (h : KK W kq X) (ht : TopAt W t k kp) : ¬ Ft W kq t := fun hf => by
  obtain ⟨mb, v, g, xs, hK⟩ := h
  unfold TopAt at ht
  rcases (hK.kp'.ft t).1 hf with e | e | e
  · have := hK.kp'
    unfold Kp at this
    rw [← e, ht] at this; simp at this
  · obtain ⟨cur, hc⟩ := row_block hK.row e
    rw [ht] at hc; simp at hc
  · obtain ⟨D, ⟨es, clock, hb, -⟩, -⟩ := hK.set
    rw [e, ht] at hb; simp at hb
/-- It stays where nothing of its own is written. -/
theorem TT.keep {W W' : World} {t k kp : Nat} {X : List Ht} {F : Nat → Prop} (h : TT W t k kp X) (s : Stay F W W') (ht : ¬ F t) (hF : ∀ j, Ft W kp j → ¬ F j) : TT W' t k kp X ∧ ∀ j, Ft W' kp j ↔ Ft W kp j := by
  obtain ⟨h1, h2, h3⟩ := h
  obtain ⟨h4, h5⟩ := h2.keep s hF
  exact ⟨⟨(s.block t h1.lt ht).trans h1, h4, h3⟩, h5⟩
theorem KK.ftlt {W : World} {kp : Nat} {X : List Ht} (h : KK W kp X) (k : Nat) (hk : Ft W kp k) : k < W.heap.size := by
  obtain ⟨mb, v, g, xs, h⟩ := h
  exact h.ftlt k hk
theorem TT.below {W W' : World} {t k kp : Nat} {X : List Ht} (h : TT W t k kp X) (b : Below W.heap.size W W') : TT W' t k kp X ∧ ∀ j, Ft W' kp j ↔ Ft W kp j := h.keep (F := fun _ => False) (.below b) (fun h => h) (fun _ _ h => h)
/-- A change of what is kept leaves the top. -/
theorem TopAt.frk {W W' : World} {t k kp kq : Nat} {X : List Ht} (h : TopAt W t k kp) (hK : KK W kq X) (f : FrK kq W W') : TopAt W' t k kp := (f.stay.block t h.lt (hK.top h)).trans h
abbrev errK : Int := 100
set_option maxRecDepth 100000 in
theorem newTop_any (k : Nat) (hk : k ≤ 4096) (w : World) : Calls Tryd.prog 34 #[.int .i64 k] w fun r w' => ∃ t kp, r = .returned (.tuple #[Pk t, .int .i64 0]) ∧ TT w' t k kp [] ∧ FreshK w w' kp ∧ w.heap.size ≤ t := by
  have h1 : ¬ (k : Int) < 0 := by omega
  have h2 : ¬ (4096 : Int) < (k : Int) := by omega
  have hn := newKept_any w
  go_enter Tryd.func34, Tryd.ntmps34
  go_wp2_with (go_at_call 47; refine hn.mono ?_; clear hn; rintro r w2 ⟨kp, rfl, hK, hF, b2⟩)
  go_ret2
  have b3 := (Below.refl w2.heap.size w2).alloc (Nat.le_refl _) (.cells #[.int .i64 k, Pk kp] 93)
  have hft : ∀ j, Ft (w2.alloc (.cells #[.int .i64 k, Pk kp] 93)) kp j → Ft w2 kp j := fun j h => ((hK.keep (F := fun _ => False) (.below b3) (fun _ _ h => h)).2 j).1 h
  exact ⟨w2.heap.size, kp, rfl, ⟨heap_alloc_last w2 _, hK.below b3, Nat.zero_le _, hk⟩, ⟨fun j h => hF j (hft j h), chain b2 b3 (Nat.le_refl _)⟩, b2.size⟩
set_option maxRecDepth 100000 in
theorem full_any (t k kp : Nat) (X : List Ht) (w : World) (h : TT w t k kp X) : Calls Tryd.prog 51 #[Pk t] w fun r w' => r = .returned (.bool (decide (X.length = k))) ∧ ∃ q, w' = w.drewN q := by
  obtain ⟨hT, ⟨mb, v, g, xs, hK⟩, hXk, hk⟩ := h
  obtain ⟨c0, c1⟩ := hT.cells
  have hlen := len_any kp mb g xs v w.drew hK.kp' (World.ownsRow.drew hK.row)
  rw [hK.len] at hlen
  have hd : decide (X.length = k) = ((X.length : Int) == (k : Int)) := by
    by_cases e : X.length = k
    · rw [decide_eq_true e, e]; simp
    · rw [decide_eq_false e]; symm; simp; omega
  rw [hd]
  obtain ⟨n, hn⟩ : ∃ n, n = X.length := ⟨_, rfl⟩
  rw [← hn] at hlen ⊢
  clear hd hn hK hT hXk
  go_enter Tryd.func51, Tryd.ntmps51
  go_wp2
  go_region_held (fun w' => w' = w.drew ∧ w'.cell? ⟨t, 0, none⟩ = some (.int .i64 k) ∧ w'.cell? ⟨t, 1, none⟩ = some (Pk kp))
    (exact ⟨rfl, c0, c1⟩)
    ((go_at_call 64; refine hlen.mono ?_; clear hlen; rintro r w4 ⟨rfl, rfl⟩))
  all_goals
    go_wp2
    go_ret
    exact ⟨rfl, 1, rfl⟩
end Go.Proofs.YtekgppmhcbmpeaaDoor
