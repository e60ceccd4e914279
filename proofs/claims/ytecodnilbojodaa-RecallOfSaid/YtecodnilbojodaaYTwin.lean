/-
  DERIVED. The law's twin of a list, and that it is whole still.
-/
import Derived.Test.YtecodnilbojodaaYSet
set_option linter.unusedVariables false
set_option linter.unusedSimpArgs false
namespace Go.Proofs.Ytecodnilbojodaa
open Go.RowKit
def mk9 : Ht := ⟨-9, 0, ⟨#[]⟩⟩
/-- A row of hits of the call's own. -/
abbrev HRow (W : World) (v : Value) (X : List Ht) : Prop := W.ownsRow 0 29 3 v X.length (X.flatMap hC)

set_option maxHeartbeats 1000000 in
set_option maxRecDepth 100000 in
theorem twin_any (l : List Ht) (hl : l.length ≤ 4398046511000) (la : Option Addr) (ca : Nat) (w : World) (ha : LAt w la l) :
    Calls Try.prog 4 #[.slice la l.length ca] w fun e w' => ∃ g c, e = .returned (.slice (some ⟨g, 0, none⟩) (l.length + 1) c) ∧ l.length + 1 ≤ c ∧ w.heap.size ≤ g ∧ HRow w' (.slice (some ⟨g, 0, none⟩) (l.length + 1) c) (l ++ [mk9]) ∧ Below w.heap.size w w' := by
  obtain ⟨v1, W1, hap, ho, st, hloc⟩ := ent_app w [] l (.slice none 0 0) ⟨rfl, .inl ⟨rfl, rfl⟩⟩ la ca ha.at' (by simp; omega)
  rw [List.nil_append] at ho
  have b1 : Below w.heap.size w W1 := st.toBelow (fun k hk e => by cases e) (Nat.le_refl _)
  obtain ⟨a1, c1, e1, -⟩ := slice_form ho
  subst e1
  obtain ⟨v2, W2, hap2, ho2, st2, hloc2⟩ := ent_app1 W1 l (.slice a1 l.length c1) ho mk9 (by omega)
  have hlen : (l ++ [mk9]).length = l.length + 1 := by simp
  obtain ⟨a2, c2, e2, hc2⟩ := slice_form ho2
  rw [hlen] at e2 hc2
  subst e2
  have b2 : Below w.heap.size w W2 := b1.trans (st2.toBelow (fun k hk e => by
    rcases hloc k e with h | h
    · cases h
    · omega) b1.size)
  have hg : ∃ g, a2 = some ⟨g, 0, none⟩ ∧ w.heap.size ≤ g := by
    rcases ho2.2 with ⟨e, e2⟩ | ⟨g, cap, cur, e, -⟩
    · rw [hlen] at e2; omega
    · simp only [Value.slice.injEq] at e
      refine ⟨g, e.1, ?_⟩
      rcases hloc2 g (by rw [e.1]; rfl) with h | h
      · rcases hloc g h with h | h
        · cases h
        · exact h
      · exact Nat.le_trans b1.size h
  obtain ⟨g, rfl, hg⟩ := hg
  have HF := Hid.mk (And.intro hc2 (And.intro hg (And.intro ho2 b2)))
  obtain ⟨n, hn⟩ : ∃ n, n = l.length := ⟨_, rfl⟩
  rw [← hn] at hap hap2 HF ⊢
  simp only [hC, mk9] at hap2
  clear ho st hloc b1 ho2 st2 hloc2 hlen hc2 b2 hg hn hl ha
  go_enter Try.func4, Try.ntmps4
  go_wp2_with (first | (at_builtin; refine wpList_append_eq rfl _ _ _ _ rfl _ _ _ _ rfl rfl hap ?_; clear hap) | (at_builtin; refine wpList_append_eq rfl _ _ _ _ rfl _ _ _ _ rfl rfl hap2 ?_; clear hap2))
  go_ret
  exact ⟨g, c2, rfl, HF.out.1, HF.out.2.1, HF.out.2.2.1, HF.out.2.2.2⟩
set_option maxRecDepth 100000 in
theorem whole_any (l : List Ht) (lt la : Option Addr) (ct ca : Nat) (w : World) (ht : LAt w lt (l ++ [mk9])) (ha : LAt w la l) (hl : l.length ≤ 4398046511000) :
    Calls Try.prog 6 #[.slice lt (l.length + 1) ct, .slice la l.length ca] w fun e w' => e = .returned (.bool true) ∧ Drew w w' := by
  obtain ⟨n, hn⟩ : ∃ n, n = l.length := ⟨_, rfl⟩
  obtain ⟨g1, o1, e1, r1⟩ := ht.at' (by simp)
  subst e1
  have HA := Hid.mk (And.intro r1 (And.intro ha hn))
  rw [← hn] at hl ⊢
  clear ht ha hn r1
  go_enter Try.func6, Try.ntmps6
  go_wp2
  go_loopw [5] (fun u wr => ∃ i : Nat, u = .int .i64 i ∧ i ≤ n ∧ Drew w wr) (fun u _ => n - (intOf u).toNat)
  case atStart => exact ⟨0, rfl, Nat.zero_le _, Drew.refl _⟩
  case round =>
    obtain ⟨i, rfl, hi, hd⟩ := hrel
    have hh : ∀ k : Nat, wr.heap[k]? = w.heap[k]? := fun k => by obtain ⟨m, rfl⟩ := hd; rfl
    by_cases hlt : i < n
    · have hln : i < l.length := by have := HA.out.2.2; omega
      have hne : l ≠ [] := fun h => by rw [h] at hln; simp at hln
      obtain ⟨g2, o2, e2, r2⟩ := HA.out.2.1.at' hne
      subst e2
      obtain ⟨x0, x1, x2⟩ := row_en HA.out.1 (hh g1) i (by simp; omega)
      obtain ⟨y0, y1, y2⟩ := row_en r2 (hh g2) i hln
      rw [List.getElem_append_left hln] at x0 x1 x2
      obtain ⟨e, he⟩ : ∃ e, e = l[i] := ⟨_, rfl⟩
      rw [← he] at x0 x1 x2 y0 y1 y2
      have i1 : (i : Int) < (n : Int) := by omega
      have i3 : (i : Int) < (n : Int) + 1 := by omega
      have i2 : 0 ≤ (i : Int) := by omega
      clear he hh r2 hne hln
      go_wp2
      go_quiet (fail)
      go_wp2
      refine ⟨⟨i + 1, rfl, hlt, hd.more _⟩, by simp only [intOf]; omega⟩
    · obtain rfl : i = n := by omega
      obtain ⟨x0, x1, x2⟩ := row_en HA.out.1 (hh g1) i (by have := HA.out.2.2; simp; omega)
      rw [List.getElem_append_right (by have := HA.out.2.2; omega)] at x0
      simp only [List.getElem_singleton, mk9] at x0
      have i3 : (i : Int) < (i : Int) + 1 := by omega
      have i2 : 0 ≤ (i : Int) := by omega
      clear hh x1 x2
      go_wp2
      go_ret
      exact ⟨rfl, hd⟩
end Go.Proofs.Ytecodnilbojodaa
