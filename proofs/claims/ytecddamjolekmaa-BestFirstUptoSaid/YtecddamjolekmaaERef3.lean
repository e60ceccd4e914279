/-
  DERIVED. The document's Put of nothing, and its cut.
-/
import Derived.Test.YtecddamjolekmaaERef2
set_option linter.unusedVariables false
set_option linter.unusedSimpArgs false
namespace Go.Proofs.Ytecddamjolekmaa
open Go.RowKit
set_option maxHeartbeats 2000000 in
set_option maxRecDepth 100000 in
theorem put_nil (h : Ht) (w : World) : Calls Try.prog 17 #[.slice none 0 0, .agg (hC h).toArray] w fun e w' => ∃ v', e = .returned v' ∧ PutR w (.slice none 0 0) w' v' h [] := by
  have bA : Below w.heap.size w (w.alloc (.cells (hC h).toArray 28)) := (Below.refl _ w).alloc (Nat.le_refl _) _
  have hb1 := heap_alloc_last w (.cells (hC h).toArray 28)
  obtain ⟨w1, hw1⟩ : ∃ w1, w1 = w.alloc (.cells (hC h).toArray 28) := ⟨_, rfl⟩
  rw [← hw1] at bA hb1
  have hw' : w.alloc (.cells #[.int .i64 h.d, .int .i64 h.i, .string h.c] 28) = w1 := hw1.symm
  have hnil : ∀ W : World, W.ownsRow 0 28 3 (.slice none 0 0) 0 [] := fun W => ⟨rfl, .inl ⟨rfl, rfl⟩⟩
  have H1 := Hid.mk (And.intro bA hb1)
  clear bA hb1 hw1
  simp only [hC]
  go_enter Try.func17, Try.ntmps17
  go_wp2
  go_loopw [5] (fun u wr => u = .int .i64 0 ∧ wr = w1) (fun u _ => 0)
  case atStart => exact ⟨rfl, rfl⟩
  case round =>
    obtain ⟨rfl, rfl⟩ := hrel
    go_wp2
    go_region
    all_goals
      go_wp2
      go_region
      all_goals
        obtain ⟨W3, hW3⟩ : ∃ W3, W3 = wr.drew.drew := ⟨_, rfl⟩
        have b3 : Below w.heap.size w W3 := by rw [hW3]; exact H1.out.1.drew.drew
        have hb3 : W3.heap[w.heap.size]? = some (.cells (hC h).toArray 28 (0, 0)) := by rw [hW3]; exact H1.out.2
        rw [← hW3]
        obtain ⟨v4, W4, hap4, ho4, s4, hl4⟩ := ent_app W3 [] [] (.slice none 0 0) (hnil W3) none 0 (fun h => absurd rfl h) (by simp)
        simp only [List.nil_append, List.length_nil, List.append_nil] at hap4 ho4
        have b4 : Below W3.heap.size W3 W4 := s4.toBelow (fun k hk e => by cases e) (Nat.le_refl _)
        have hn4 : ∀ k, v4.ownBlock = some k → W3.heap.size ≤ k := fun k hk => (hl4 k hk).elim (fun e => by cases e) id
        obtain ⟨a4, c4, hv4, -⟩ := slice_form ho4
        subst hv4
        obtain ⟨v5, W5, hap5, ho5, s5, hl5⟩ := ent_app1 W4 [] _ ho4 h (by simp)
        have b5 : Below W3.heap.size W4 W5 := s5.toBelow (fun k hk e => by have := hn4 k e; omega) b4.size
        have hn5 : ∀ k, v5.ownBlock = some k → W3.heap.size ≤ k := fun k hk => (hl5 k hk).elim (hn4 k) (fun e => Nat.le_trans b4.size e)
        obtain ⟨a5, c5, hv5, -⟩ := slice_form ho5
        subst hv5
        obtain ⟨v6, W6, hap6, ho6, s6, hl6⟩ := ent_app W5 ([] ++ [h]) [] _ ho5 none 0 (fun h => absurd rfl h) (by simp)
        have b6 : Below W3.heap.size W5 W6 := s6.toBelow (fun k hk e => by have := hn5 k e; omega) (Nat.le_trans b4.size b5.size)
        have hn6 : ∀ k, v6.ownBlock = some k → w.heap.size ≤ k := fun k hk => (hl6 k hk).elim (fun e => Nat.le_trans b3.size (hn5 k e)) (fun e => Nat.le_trans b3.size (Nat.le_trans b4.size (Nat.le_trans b5.size e)))
        have HF : Hid (PutR w (.slice none 0 0) W6 v6 h []) := ⟨by have h9 := ho6; simp only [List.append_nil] at h9; exact h9, fun k hk => .inr (hn6 k hk), b3.trans ((b4.trans (b5.trans b6)).mono b3.size)⟩
        obtain ⟨z0, z1, z2⟩ := box_cells (((b4.block _ (Array.getElem?_eq_some_iff.1 hb3).1).trans hb3))
        simp only [hC, List.nil_append, List.length_nil, List.length_cons, Nat.zero_add] at hap5 hap6
        clear hn6 b6 s6 hl6 ho6 hn5 b5 s5 hl5 ho5 hn4 b4 s4 hl4 ho4 hb3 b3 hW3 hnil H1
        go_wp2_with first
          | (at_builtin; refine wpList_append_eq rfl _ _ _ _ rfl _ _ _ _ rfl rfl hap4 ?_; clear hap4)
          | (at_builtin; refine wpList_append_eq rfl _ _ _ _ rfl _ _ _ _ rfl rfl hap5 ?_; clear hap5)
          | (at_builtin; refine wpList_append_eq rfl _ _ _ _ rfl _ _ _ _ rfl rfl hap6 ?_; clear hap6)
        go_ret
        exact ⟨_, rfl, HF.out⟩
/-- The document's Put, whatever lies there. -/
theorem put_all (v : Value) (X : List Ht) (h : Ht) (w : World) (hr : HRow w v X) (hX : Srt X) (hf : ∀ x ∈ X, HtW x) (hh : HtW h) (hl : X.length < LIM) :
    Calls Try.prog 17 #[v, .agg (hC h).toArray] w fun e w' => ∃ v', e = .returned v' ∧ PutR w v w' v' h X := by
  by_cases hv : v = .slice none 0 0
  · have hx : X = [] := by
      obtain ⟨a, c, e, -⟩ := slice_form hr
      rw [hv] at e
      simp only [Value.slice.injEq] at e
      exact List.eq_nil_of_length_eq_zero e.2.1.symm
    subst hx
    rw [hv]
    exact put_nil h w
  · exact put_any v X h w hr hX hf hh hl hv
def RCut (w : World) (X : List Ht) (uv ui : Value) (wr : World) : Prop := ∃ (i : Nat) (a : Option Addr) (m c : Nat), uv = .slice a m c ∧ ui = .int .i64 i ∧ i ≤ X.length ∧ Hid (m = i ∧ HRow wr (.slice a m c) (X.take i) ∧ (∀ j, (Value.slice a m c).ownBlock = some j → w.heap.size ≤ j) ∧ Below w.heap.size w wr)
set_option maxHeartbeats 2000000 in
set_option maxRecDepth 100000 in
theorem cut_any (la : Option Addr) (ca : Nat) (X : List Ht) (k : Nat) (w : World) (ha : LAt w la X) (hl : X.length < LIM) :
    Calls Try.prog 18 #[.slice la X.length ca, .int .i64 k] w fun e w' => ∃ v, e = .returned v ∧ Told w w' v (X.take k) := by
  obtain ⟨n, hn⟩ : ∃ n, n = X.length := ⟨_, rfl⟩
  have HA := Hid.mk (And.intro ha (And.intro hn hl))
  have hnl : n < 4398046511102 := by unfold LIM at hl; omega
  rw [← hn]
  clear ha hn hl
  go_enter Try.func18, Try.ntmps18
  go_wp2
  go_loopw [5, 6] (fun uv ui wr => RCut w X uv ui wr ∧ (intOf ui) ≤ k) (fun _ u _ => n - (intOf u).toNat)
  case atStart => exact ⟨⟨0, none, 0, 0, rfl, rfl, Nat.zero_le _, rfl, ⟨rfl, .inl ⟨rfl, rfl⟩⟩, fun j hj => (by cases hj), Below.refl _ _⟩, by simp [intOf]⟩
  case round =>
    obtain ⟨⟨i, a, m, c, rfl, rfl, hi, HP⟩, hik⟩ := hrel
    simp only [intOf] at hik
    have hend : ∀ (j : Nat), ¬ (i < n ∧ i < k) → X.take i = X.take k := fun _ hne => by
      have hnX := HA.out.2.1
      have : i = n ∨ i = k := by omega
      rcases this with e | e
      · rw [List.take_of_length_le (by omega), List.take_of_length_le (by omega)]
      · rw [e]
    by_cases hlt : i < n
    · have i1 : (i : Int) < (n : Int) := by omega
      have i2 : (0 : Int) ≤ (i : Int) := by omega
      by_cases hk : i < k
      · have k1 : (i : Int) < (k : Int) := by omega
        have hiX : i < X.length := by have := HA.out.2.1; omega
        obtain ⟨g, o, e1, x0, x1, x2⟩ := HA.out.1.hit (W := wr) (fun q hq => HP.out.2.2.2.block q hq) i hiX
        subst e1
        obtain ⟨x, hx⟩ : ∃ x, x = X[i] := ⟨_, rfl⟩
        rw [← hx] at x0 x1 x2
        have hm := HP.out.1
        have htl : (X.take i).length = i := by rw [List.length_take]; omega
        obtain ⟨v', w6, hap, ho, s6, hloc⟩ := ent_app1 wr (X.take i) (.slice a m c) (by have h0 := HP.out.2.1; exact h0) x (by rw [htl]; omega)
        have hl6 : (X.take i ++ [x]).length = i + 1 := by rw [List.length_append, htl]; rfl
        obtain ⟨a', c', hv', -⟩ := slice_form ho
        rw [hl6] at hv'
        subst hv'
        have HN : Hid (RCut w X (.slice a' (i + 1) c') (.int .i64 ((i + 1 : Nat) : Int)) w6) := by
          have e : X.take (i + 1) = X.take i ++ [x] := by rw [List.take_succ_eq_append_getElem hiX, hx]
          refine ⟨i + 1, a', i + 1, c', rfl, rfl, hiX, rfl, by rw [e]; exact ho, fun j hj => ?_, ?_⟩
          · rcases hloc j hj with h1 | h1
            · exact HP.out.2.2.1 j h1
            · exact Nat.le_trans HP.out.2.2.2.size h1
          · exact HP.out.2.2.2.trans (s6.toBelow (fun j hj hF => by have := HP.out.2.2.1 j hF; omega) HP.out.2.2.2.size)
        have hwi : IntKind.i64.wrap ((i : Int) + 1) = ((i + 1 : Nat) : Int) := by rw [IntKind.wrap_i64]; omega
        simp only [hC] at hap
        clear hx hm htl ho s6 hloc hl6 HP hend
        go_wp2_with (at_builtin; refine wpList_append_eq rfl _ _ _ _ rfl _ _ _ _ rfl rfl hap ?_; clear hap)
        exact ⟨⟨HN.out, by simp only [intOf]; omega⟩, by simp only [intOf]; omega⟩
      · have k1 : ¬ (i : Int) < (k : Int) := by omega
        have HE : Hid (Told w wr (.slice a m c) (X.take k)) := by
          have e := hend 0 (fun h => hk h.2)
          rw [← e]; exact ⟨HP.out.2.1, HP.out.2.2.1, HP.out.2.2.2⟩
        clear HP hend
        go_wp2
        go_ret
        exact ⟨_, rfl, HE.out⟩
    · have i1 : ¬ (i : Int) < (n : Int) := by omega
      have HE : Hid (Told w wr (.slice a m c) (X.take k)) := by
        have e := hend 0 (fun h => hlt h.1)
        rw [← e]; exact ⟨HP.out.2.1, HP.out.2.2.1, HP.out.2.2.2⟩
      clear HP hend
      go_wp2
      go_ret
      exact ⟨_, rfl, HE.out⟩
end Go.Proofs.Ytecddamjolekmaa
