/-
  DERIVED. The document's own counts: over, Count.
-/
import Derived.Test.YteiaopjpnfhbgabDoorCount
namespace Go.Proofs.YteiaopjpnfhbgabDoor
open Go.RowKit Go.Proofs.MaskMath
theorem Tryd.info3 : (Tryd.prog.info? 3).map (fun i => (i.zero, i.size, i.bytes)) = some (some (.int .i64 0), 1, 8) := by kernel_rfl
/-- The first row, as far as it was laid. -/
def oneF (k : Nat) : Int := if k = 0 then 1 else 0
theorem oneF_snoc (k : Nat) : cellsF oneF (k + 1) ++ [.int .i64 0] = cellsF oneF (k + 1 + 1) := by
  unfold cellsF
  rw [List.range_succ (n := k + 1), List.map_append]
  simp [oneF]
theorem oneF_ch (k : Nat) : oneF k = (ch 0 k : Int) := by
  cases k with
  | zero => simp [oneF, ch_zero]
  | succ k => simp [oneF, ch]
/-- A row of the call's own, as numbers. -/
theorem own_arr {w : World} {base n : Nat} {v : Value} {f : Nat → Int} (h : w.ownsRow base 3 1 v (n + 1) (cellsF f (n + 1))) : ∃ g cap, v = .slice (some ⟨g, 0, none⟩) (n + 1) cap ∧ base ≤ g ∧ Arr w g (n + 1) f := by
  rcases h.2 with ⟨_, h0⟩ | ⟨g, cap, cur, rfl, hb, _⟩
  · omega
  · refine ⟨g, cap, rfl, hb, fun k hk => ⟨?_, h.frozenAt k⟩⟩
    rw [h.cellAt k (by omega), cellsF_at hk]
set_option maxHeartbeats 400000 in
theorem over_no (n s : Int) (w : World) (h : okS n s = false) :
    Calls Tryd.prog 26 #[.int .i64 n, .int .i64 s] w fun e w' => e = .returned (.int .i64 0) ∧ Below w.heap.size w w' := by
  simp [okS] at h
  by_cases h0 : s < 0
  · clear h
    go_enter Tryd.func26, Tryd.ntmps26
    go_wp2
    go_ret
    exact ⟨rfl, Below.refl _ _⟩
  · have h1 : n < s := by omega
    clear h
    go_enter Tryd.func26, Tryd.ntmps26
    go_wp2
    go_ret
    exact ⟨rfl, Below.refl _ _⟩
set_option maxRecDepth 100000 in
set_option maxHeartbeats 4000000 in
theorem over_yes (n s : Nat) (w : World) (hn : n ≤ 64) (hs : s ≤ n) :
    Calls Tryd.prog 26 #[.int .i64 n, .int .i64 s] w fun e w' => e = .returned (.int .i64 (ch n s)) ∧ Below w.heap.size w w' := by
  obtain ⟨i0, hi, hz0, hz1, hz2⟩ := info_parts Tryd.info3
  go_enter Tryd.func26, Tryd.ntmps26
  have hs1 : ¬ (s : Int) < 0 := by omega
  have hs2 : ¬ n < s := by omega
  go_wp2
  have hO : (w.alloc (Obj.cells #[Value.int IntKind.i64 1] 3)).ownsRow w.heap.size 3 1 (.slice (some ⟨w.heap.size, 0, none⟩) 1 1) (0 + 1) (cellsF oneF (0 + 1)) :=
    ⟨rfl, .inr ⟨w.heap.size, 1, #[.int .i64 1], rfl, Nat.le_refl _, heap_alloc_last w _, Nat.le_refl _, by unfold maxLen; omega, rfl, rfl⟩⟩
  have hB : Below w.heap.size w (w.alloc (Obj.cells #[Value.int IntKind.i64 1] 3)) := (Below.refl _ w).alloc (Nat.le_refl _) _
  generalize (w.alloc (Obj.cells #[Value.int IntKind.i64 1] 3)) = W0 at *
  go_loopw [5, 6] (fun v i wr => ∃ k : Nat, k ≤ s ∧ i = .int .i64 k ∧ wr.ownsRow w.heap.size 3 1 v (k + 1) (cellsF oneF (k + 1)) ∧ Below w.heap.size w wr) (fun _ i _ => s - (intOf i).toNat)
  case atStart => exact ⟨0, Nat.zero_le _, rfl, hO, hB⟩
  case round =>
    obtain ⟨k, hk, rfl, hown, hb⟩ := hrel
    clear hO hB
    by_cases hlt : k < s
    · have hkn : k < 64 := by omega
      go_wp2_with (at_builtin; refine wpList_append_own _ rfl _ _ 50 rfl w.heap.size 3 i0 (.int .i64 0) 1 8 Tryd.underlying50 hi hz0 hz1 hz2 rfl (by decide) _ _ _ rfl (hown.alloc _) ⟨wr.heap.size, 0, none⟩ 1 1 [.int .i64 0] ?_ rfl (cell_one_new _ _ _) (fun x hx => by simp at hx; subst hx; rfl) (by unfold maxLen; omega) (by omega) (by have := hb.size; simp; omega) ?_; go_simp; intro v' w3 hown' hgrow3 hnil3)
      clear hnil3
      have hgr : (wr.alloc (Obj.cells #[Value.int IntKind.i64 0] 3)).grownBy w3 u5.ownBlock := hgrow3
      clear hgrow3
      have hb3 : Below w.heap.size w w3 := (hb.alloc hb.size _).grown hgr (by have := hb.size; simp; omega) (fun k hk => (hown.lt k hk).1)
      refine ⟨⟨k + 1, hlt, by go_num, ?_, hb3⟩, by show s - ((k + 1 : Nat) : Int).toNat < s - ((k : Nat) : Int).toNat; omega⟩
      rw [← oneF_snoc]; exact hown'
    · have e : k = s := by omega
      subst e
      obtain ⟨g, cap, rfl, hg, hA⟩ := own_arr hown
      have hgl := hA.lt (by omega)
      clear hown
      replace hA := hA.ext fun q _ => oneF_ch q
      go_wp2
      go_loopw [7] (fun v wr => ∃ t : Nat, t ≤ n ∧ v = .int .i64 (t + 1 : Nat) ∧ Arr wr g (k + 1) (fun q => (ch t q : Int)) ∧ Below w.heap.size w wr) (fun v _ => n + 1 - (intOf v).toNat)
      case atStart => exact ⟨0, Nat.zero_le _, rfl, hA, hb⟩
      case round =>
        obtain ⟨t, ht, rfl, hA', hb'⟩ := hrel
        clear hA hb hgl
        by_cases hlt : t + 1 ≤ n
        · have hA2 : ∀ m, m ≤ t + 1 → m ≤ k → (m = t + 1 ∨ m = k) → Arr wr g (k + 1) (mixF t m) := fun m h1 h2 h3 => hA'.ext fun q hq => by
            unfold mixF
            by_cases hc : m < q
            · rw [if_pos hc, ch_big t q (by omega), ch_big (t + 1) q (by omega)]
            · rw [if_neg hc]
          clear hA'
          by_cases hmn : t + 1 ≤ k
          all_goals
            go_wp2
            go_loopw [8] (fun v wr => ∃ j : Nat, j ≤ t + 1 ∧ j ≤ k ∧ v = .int .i64 j ∧ Arr wr g (k + 1) (mixF t j) ∧ Below w.heap.size w wr) (fun v _ => (intOf v).toNat)
            case atStart => first
              | exact ⟨t + 1, Nat.le_refl _, by omega, by go_num, hA2 _ (Nat.le_refl _) (by omega) (.inl rfl), hb'⟩
              | exact ⟨k, by omega, Nat.le_refl _, by go_num, hA2 _ (by omega) (Nat.le_refl _) (.inr rfl), hb'⟩
            case round =>
              obtain ⟨j, hj1, hj2, rfl, hA, hb⟩ := hrel
              clear hA2 hb'
              by_cases h0 : 0 < j
              · obtain ⟨x, rfl⟩ : ∃ x, j = x + 1 := ⟨j - 1, by omega⟩
                have HA : Hid (Arr wr g (k + 1) (mixF t (x + 1))) := hA
                have HB : Hid (Below w.heap.size w wr) := hb
                have c1 : wr.cell? ⟨g, x + 1, none⟩ = some (.int .i64 (ch t (x + 1))) := by have := (hA (x + 1) (by omega)).1; rwa [mixF, if_neg (by omega)] at this
                have c0 : wr.cell? ⟨g, x, none⟩ = some (.int .i64 (ch t x)) := by have := (hA x (by omega)).1; rwa [mixF, if_neg (by omega)] at this
                have f1 := (hA (x + 1) (by omega)).2
                have hl := ch_lt (t + 1) (x + 1) (by omega)
                have HC : Hid (ch (t + 1) (x + 1) = ch t x + ch t (x + 1)) := ch_succ t x
                rw [HC.out] at hl
                clear hA hb
                generalize ch t x = y at *
                generalize ch t (x + 1) = z at *
                have hx1 : (x : Int) < (k : Int) := by omega
                go_wp2
                go_region
                all_goals go_wp2
                all_goals
                  refine ⟨⟨x, by omega, by omega, by go_num, ((Arr.set HA.out (x + 1) ((z : Int) + (y : Int))).drew).ext ?_, (HB.out.setCell (by simp; omega) _).drew⟩, by show ((x : Nat) : Int).toNat < ((x + 1 : Nat) : Int).toNat; omega⟩
                  intro q _
                  unfold mixF
                  by_cases hq : q = x + 1
                  · subst hq; simp [HC.out]; omega
                  · by_cases h2 : x + 1 < q
                    · simp [hq, h2]; omega
                    · have h3 : ¬ x < q := by omega
                      simp [hq, h2, h3]
              · have e : j = 0 := by omega
                subst e
                have hA0 : Arr wr g (k + 1) (fun q => (ch (t + 1) q : Int)) := hA.ext fun q _ => by
                  unfold mixF
                  by_cases hq : 0 < q
                  · rw [if_pos hq]
                  · have e : q = 0 := by omega
                    subst e; simp [ch_zero]
                clear hA
                go_wp2
                exact ⟨⟨t + 1, hlt, by go_num, hA0, hb⟩, by show n + 1 - ((t + 1 + 1 : Nat) : Int).toNat < n + 1 - ((t + 1 : Nat) : Int).toNat; omega⟩
        · have e : t = n := by omega
          subst e
          have c := (hA' k (by omega)).1
          clear hA'
          go_wp2
          go_ret
          exact ⟨rfl, hb'⟩
theorem over_all (n : Nat) (s : Int) (w : World) (hn : n ≤ 64) :
    Calls Tryd.prog 26 #[.int .i64 n, .int .i64 s] w fun e w' => e = .returned (.int .i64 (chI n s)) ∧ Below w.heap.size w w' := by
  unfold chI
  cases k : okS n s
  · simp only [Bool.false_eq_true, if_false]; exact over_no n s w k
  · obtain ⟨b, rfl, hb⟩ := okS_nat k
    simp only [if_true]
    exact over_yes n b w hn (by omega)
end Go.Proofs.YteiaopjpnfhbgabDoor
