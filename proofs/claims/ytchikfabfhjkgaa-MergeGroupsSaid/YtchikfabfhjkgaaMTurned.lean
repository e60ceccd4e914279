/-
  DERIVED. The laws' own turned; parts of lists.
-/
import Derived.Test.YtchikfabfhjkgaaMLawX
set_option linter.unusedVariables false
set_option linter.unusedSimpArgs false
namespace Go.Proofs.Ytchikfabfhjkgaa
open Go.RowKit
theorem DL.own {base : Nat} {W : World} {a : Option Addr} {c : Nat} {R : List (List En)} (h : DL base W (.slice a R.length c) R) {k : Nat} {r : List En} (hr : R[k]? = some r) :
    ∃ g la lc, a = some ⟨g, 0, none⟩ ∧ W.cell? ⟨g, k, none⟩ = some (.slice la r.length lc) ∧ W.ownsRow 0 23 5 (.slice la r.length lc) r.length (r.flatMap enC) := by
  obtain ⟨ss, h1, h2, h3⟩ := h.row
  have hk : k < R.length := (List.getElem?_eq_some_iff.1 hr).1
  have hs : ss[k]? = some ss[k] := List.getElem?_eq_getElem (by omega)
  have h4 := h3 k r _ hr hs
  obtain ⟨la, lc, e, hlc⟩ := slice_form h4
  have hg : ∃ g, a = some ⟨g, 0, none⟩ := by
    rcases h2.2 with ⟨e, e2⟩ | ⟨g, cap, cur, e, -⟩
    · omega
    · simp only [Value.slice.injEq] at e
      exact ⟨g, e.1⟩
  obtain ⟨g, rfl⟩ := hg
  refine ⟨g, la, lc, rfl, ?_, by rw [← e]; exact h4⟩
  rw [World.ownsRow.cellAt h2 k (by omega), hs, e]
/-- What turned answers. -/
def TurnO (R : List (List En)) (w : World) (r : Ending) (w' : World) : Prop := Below w.heap.size w w' ∧ ∃ a c, r = .returned (.slice a R.length c) ∧ DL w.heap.size w' (.slice a R.length c) R.reverse
set_option maxHeartbeats 4000000 in
set_option maxRecDepth 100000 in
theorem turned_any (R : List (List En)) (B : Nat) (a : Option Addr) (c : Nat) (w : World) (h : DL B w (.slice a R.length c) R) (hl : R.length ≤ 60) :
    Calls Try.prog 26 #[.slice a R.length c] w (TurnO R w) := by
  obtain ⟨n, hn⟩ : ∃ n, n = R.length := ⟨_, rfl⟩
  have HA := Hid.mk (And.intro h hn)
  rw [← hn] at hl ⊢
  clear h hn
  have hw0 : IntKind.i64.wrap ((n : Int) - 1) = (n : Int) - 1 := by rw [IntKind.wrap_i64]; omega
  go_enter Try.func26, Try.ntmps26
  go_wp2
  go_loopw [3, 4] (fun lv iv wr => ∃ (i : Nat), iv = .int .i64 ((i : Int) - 1) ∧ i ≤ n ∧ DL w.heap.size wr lv (R.drop i).reverse ∧ Below w.heap.size w wr) (fun _ iv _ => ((intOf iv) + 1).toNat)
  case atStart => exact ⟨n, rfl, Nat.le_refl _, by rw [HA.out.2, List.drop_length]; exact DL.nil _ _, Below.refl _ _⟩
  case round =>
    obtain ⟨i, rfl, hi, hD, hb⟩ := hrel
    obtain ⟨va, vc, hv, hvc⟩ := hD.form
    subst hv
    by_cases hlt : 0 < i
    · obtain ⟨j, rfl⟩ : ∃ j, i = j + 1 := ⟨i - 1, by omega⟩
      have e1 : (((j + 1 : Nat) : Int) - 1) = (j : Int) := by omega
      rw [e1]
      clear e1
      have hjn : j < R.length := by have := HA.out.2; omega
      obtain ⟨r, hr⟩ : ∃ r, R[j]? = some r := ⟨_, List.getElem?_eq_getElem hjn⟩
      obtain ⟨g, la, lc, rfl, hc, ho⟩ := (HA.out.1.lat hb).own hr
      obtain ⟨a', c', w', hap, hD', hb'⟩ := hD.push hb.size (by rw [List.length_reverse, List.length_drop]; have := HA.out.2; omega) ho rfl
      have ed : (R.drop (j + 1)).reverse ++ [r] = (R.drop j).reverse := by
        obtain ⟨h1, h2⟩ := List.getElem?_eq_some_iff.1 hr
        rw [List.drop_eq_getElem_cons hjn, List.reverse_cons, h2]
      rw [ed] at hD'
      obtain ⟨m, hm⟩ : ∃ m, m = (R.drop (j + 1)).reverse.length := ⟨_, rfl⟩
      rw [← hm] at hap hD' ⊢
      have FN := Hid.mk (And.intro hD' (hb.trans hb'))
      have j0 : (0 : Int) ≤ (j : Int) := by omega
      have j1 : (j : Int) < (n : Int) := by omega
      have hw1 : IntKind.i64.wrap ((j : Int) - 1) = (j : Int) - 1 := by rw [IntKind.wrap_i64]; omega
      clear hD hb ho hr hD' hb' ed hvc hm hlt
      go_wp2_with (at_builtin; refine wpList_append_eq rfl _ _ _ _ rfl _ _ _ _ rfl rfl hap ?_; clear hap)
      refine ⟨⟨j, rfl, by omega, FN.out.1, FN.out.2⟩, by simp only [intOf]; omega⟩
    · have : i = 0 := by omega
      subst this
      rw [List.drop_zero] at hD
      rw [List.drop_zero]
      have FN := Hid.mk (And.intro hb hD)
      obtain ⟨m, hm⟩ : ∃ m, m = R.reverse.length := ⟨_, rfl⟩
      have HM := Hid.mk hm
      rw [← hm]
      clear hD hb hvc hm
      go_wp2
      go_ret
      refine ⟨FN.out.1, va, vc, ?_, ?_⟩
      · rw [HM.out, List.length_reverse]; rfl
      · have := FN.out.2; rw [List.length_reverse] at this; exact this
theorem LL.take {w : World} {la : Option Addr} {R : List (List En)} (h : LL w la R) (k : Nat) : LL w la (R.take k) := ⟨fun i r hr => by
  rw [List.getElem?_take] at hr
  split at hr
  · exact h.at' i r hr
  · cases hr⟩
theorem LL.drop {w : World} {lb lo : Nat} {R : List (List En)} (h : LL w (some ⟨lb, lo, none⟩) R) (k : Nat) : LL w (some ⟨lb, lo + k, none⟩) (R.drop k) := ⟨fun i r hr => by
  rw [List.getElem?_drop] at hr
  obtain ⟨lb', lo', a, c, e, h2, h3⟩ := h.at' _ r hr
  cases e
  exact ⟨lb, lo + k, a, c, rfl, by rw [Nat.add_assoc]; exact h2, h3⟩⟩
theorem sub_flat : ∀ {P R : List (List En)}, P.Sublist R → P.flatten.Sublist R.flatten
  | _, _, .slnil => List.Sublist.refl _
  | P, a :: R, .cons _ h => by rw [List.flatten_cons]; exact (sub_flat h).trans (List.sublist_append_right a R.flatten)
  | a :: P, _ :: R, .cons_cons _ h => by rw [List.flatten_cons, List.flatten_cons]; exact List.Sublist.append (List.Sublist.refl a) (sub_flat h)
theorem FR.part {F : List En} {R : List (List En)} (h : FR F R) {P : List (List En)} (hs : P.Sublist R) {w : World} {la : Option Addr} (k : LL w la P) (lc : Nat) (bottom : Bool) : Calls Try.prog 24 #[.slice la P.length lc, .bool bottom] w (MgO P bottom w) := by
  have hfl : P.flatten.Sublist R.flatten := sub_flat hs
  refine merge_told P la lc bottom w k (by have := hs.length_le; have := h.rl; have := h.l; omega) (fun r hr => h.cc r (hs.subset hr)) (by have := hfl.length_le; rw [h.ri.flat.length_eq] at this; have := h.l; omega) (fun r hr => h.ri.up r (hs.subset hr)) (List.Pairwise.sublist hfl h.uu)
theorem nd_len : ∀ {l m : List En}, l.Nodup → (∀ x ∈ l, x ∈ m) → l.length ≤ m.length
  | [], m, _, _ => Nat.zero_le _
  | a :: l, m, hn, hs => by
    obtain ⟨h1, h2⟩ := List.nodup_cons.1 hn
    obtain ⟨s, t, rfl⟩ := List.append_of_mem (hs a (by simp))
    have := nd_len (l := l) (m := s ++ t) h2 (fun x hx => by
      have h3 := hs x (List.mem_cons_of_mem _ hx)
      simp only [List.mem_append, List.mem_cons] at h3 ⊢
      rcases h3 with h | rfl | h
      · exact .inl h
      · exact absurd hx h1
      · exact .inr h)
    simp at this ⊢
    omega
theorem Told.len {R : List (List En)} {bottom : Bool} {out : List En} (h : Told R bottom out) : out.length ≤ R.flatten.length := by
  have nd : out.Nodup := h.up.imp (fun {a b} hab e => by subst e; have := cpE_self a; omega)
  exact nd_len nd (fun x hx => ((h.mem x).1 hx).1.1)
theorem both_uniq {A B : List (List En)} {l m : List En} (h : Told A false l) (k : Told B false m) (hu : Uniq (A ++ B).flatten) : Uniq ([l, m] : List (List En)).flatten := by
  rw [List.flatten_append] at hu
  have e1 : ([l, m] : List (List En)).flatten = l ++ m := by simp
  rw [e1]
  refine List.pairwise_append.2 ⟨h.up.imp (fun {a b} hab e => by omega), k.up.imp (fun {a b} hab e => by omega), fun a ha b hb => ?_⟩
  exact (List.pairwise_append.1 hu).2.2 a ((h.mem a).1 ha).1.1 b ((k.mem b).1 hb).1.1
end Go.Proofs.Ytchikfabfhjkgaa
