/-
  DERIVED. The iterator chunks: its maker, its contract.
-/
import Derived.Test.YtnmhpbgiljchkaaGreatDoorNumber
import Derived.Test.YtnmhpbgiljchkaaGreatDoorMathC
namespace Go.Proofs.YtnmhpbgiljchkaaGreatDoor
open Go.RowKit Go.Shelf Go.Proofs.BitMath
attribute [local go_sem] Oper.semAt_some
/-- What chunks hands on for chunk j. -/
def encC (w m : Nat) {p : Nat → Prop} (x : Pos p) : Array Value := #[.int .i64 (x.1 : Nat), .agg #[.int .i64 (frC w m x.1), .int .i64 (btC w m x.1)]]
/-- Every block of cells from n on lies as it lay. -/
def KeepC (n : Nat) (W W' : World) : Prop := ∀ k o, n ≤ k → W.heap[k]? = some o → o.isCells = true → W'.heap[k]? = some o
theorem keepC_t {n : Nat} {A B C : World} (h : KeepC n A B) (k : KeepC n B C) : KeepC n A C := fun i o hi ho hc => k i o hi (h i o hi ho hc) hc
theorem keepC_b {n : Nat} {w : World} (W : World) (l : Nat) (o o' : Obj) (_ : w.heap.size ≤ l) (hl : W.heap[l]? = some o) (ho : o.isCells = false) (_ : o.isWalk = false) : KeepC n W (W.putObj l o') := fun i q _ hq hc => by
  have hne : i ≠ l := fun e => by subst e; rw [hl] at hq; cases hq; rw [ho] at hc; cases hc
  exact (World.putObj_heap_other (by omega)).trans hq
theorem KeepC.cell {n : Nat} {W W' : World} (h : KeepC n W W') {a : Addr} {v : Value} (ha : n ≤ a.block) (hv : W.cell? a = some v) : W'.cell? a = some v := by
  cases ho : W.heap[a.block]? with
  | none => simp [World.cell?, ho] at hv
  | some o =>
    have hc : o.isCells = true := by
      cases o <;> simp [World.cell?, ho] at hv <;> rfl
    exact (World.cell?_of_block ((h a.block o ha ho hc).trans ho.symm)).trans hv
theorem KeepC.refl (n : Nat) (W : World) : KeepC n W W := fun _ _ _ h _ => h
theorem KeepC.grown {n : Nat} {W W' : World} {row : Option Nat} (hg : W.grownBy W' row) (h : ∀ k, row = some k → k < n) : KeepC n W W' := fun i o hi ho _ => by
  rw [hg.block i (Array.getElem?_eq_some_iff.1 ho).1 (fun e => by have := h i e.symm; omega)]; exact ho
theorem KeepC.drew {n : Nat} {W W' : World} (h : Drew W W') : KeepC n W W' := KeepC.grown (grown_drew h) (fun k e => by cases e)
theorem KeepC.alloc (n : Nat) (W : World) (o : Obj) : KeepC n W (W.alloc o) := KeepC.grown (World.grownBy_alloc W o none) (fun k e => by cases e)
set_option maxHeartbeats 400000 in
theorem chunks_any (x y : Nat) (w : World) :
    Calls Tryz.prog 65 #[.int .i64 x, .int .i64 y] w fun e w' => e = .returned (.func (.func 89) #[] #[.pointer (some ⟨w.heap.size + 1, 0, none⟩), .pointer (some ⟨w.heap.size, 0, none⟩)]) ∧ w' = (w.alloc (.cells #[.int .i64 x] 3)).alloc (.cells #[.int .i64 y] 3) := by
  go_enter Tryz.func65, Tryz.ntmps65
  go_wp2
  go_ret
  exact ⟨rfl, rfl⟩
set_option maxRecDepth 100000 in
set_option maxHeartbeats 1000000 in
theorem chunks_stops (p : Nat → Prop) (x m bW bM n n₁ : Nat) (w : World) (hX : w.cell? ⟨bW, 0, none⟩ = some (.int .i64 x)) (hM : w.cell? ⟨bM, 0, none⟩ = some (.int .i64 m))
    (hm : 0 < m) (hx : x ≤ 1024) (hml : m ≤ 1024) (h1 : n₁ ≤ bW) (h2 : n₁ ≤ bM) (hp : ∀ i, i < m → p i) :
    SeqStopsK Fence.wide n Tryz.prog 89 #[.pointer (some ⟨bM, 0, none⟩), .pointer (some ⟨bW, 0, none⟩)] (encC x m (p := p)) (KeepC n₁) (fun xs => vals xs = List.range m) (fun _ => True) m w := fun l J Jx W hW hJ _ hY h0 => by
  have hX' : W.cell? ⟨bW, 0, none⟩ = some (.int .i64 x) := (hW.cell (World.block_lt_of_cell? w _ hX)).trans hX
  have hM' : W.cell? ⟨bM, 0, none⟩ = some (.int .i64 m) := (hW.cell (World.block_lt_of_cell? w _ hM)).trans hM
  refine callsIn_of_wp Tryz.func89 rfl trivial ?_ rfl
  simp only [Tryz.ntmps89, List.size_toArray, List.length_cons, List.length_nil, Nat.reduceAdd, Nat.reduceSub, Array.replicate_succ, Array.replicate_zero, List.push_toArray, List.append_toArray, List.nil_append, List.cons_append]
  gi_wp2
  gi_loopw [4, 8] (fun f i wr => ∃ (k : Nat) (pre : List (Pos p)), k ≤ m ∧ f = .int .i64 (frC x m k) ∧ i = .int .i64 k ∧ vals pre = List.range k ∧ J pre wr ∧ wr.cell? ⟨bW, 0, none⟩ = some (.int .i64 x) ∧ wr.cell? ⟨bM, 0, none⟩ = some (.int .i64 m) ∧ W.heap.size ≤ wr.heap.size) (fun _ i _ => m - (intOf i).toNat)
  case atStart => exact ⟨0, [], Nat.zero_le _, by rw [frC_zero]; rfl, rfl, rfl, h0, hX', hM', Nat.le_refl _⟩
  case round =>
    obtain ⟨k, pre, hk, rfl, rfl, hpre, hJk, hcx, hcm, hsz⟩ := hrel
    have HP : Hid _ := hpre
    have hlen : pre.length = k := by have := congrArg List.length hpre; rw [vals_length] at this; simpa using this
    clear hpre hX' hM'
    by_cases hlt : k < m
    · have hl : pre.length < m := by rw [hlen]; exact hlt
      have hin := frC_in x m k hlt
      have HS : Hid _ := frC_succ x m k
      have hbw : bW < wr.heap.size := World.block_lt_of_cell? wr _ hcx
      have hbm : bM < wr.heap.size := World.block_lt_of_cell? wr _ hcm
      have hd : (x : Int) / (m : Int) = ((x / m : Nat) : Int) := by simp
      have hr : (x : Int) % (m : Int) = ((x % m : Nat) : Int) := by simp
      have hble : x / m ≤ x := Nat.div_le_self x m
      have HB : Hid (btC x m k = if k < x % m then x / m + 1 else x / m) := rfl
      clear hlen
      generalize x / m = b at *
      generalize x % m = r at *
      by_cases hkr : k < r
      · have HB2 : Hid (btC x m k = b + 1) := by show _ = _; rw [HB.out, if_pos hkr]
        have hkr' : (k : Int) < (r : Int) := by omega
        have hJ1 := hJ pre wr _ none hJk (World.grownBy_alloc wr (.cells #[.int .i64 (frC x m k), .int .i64 ((b : Int) + 1)] 38) none) (fun r e => by cases e)
        obtain ⟨fn, tmps, assign, body, hy, hR⟩ := hY pre ⟨k, hp k hlt⟩ _ hJ1 hl
        dsimp only [encC] at hy
        rw [HB2.out, show ((b + 1 : Nat) : Int) = (b : Int) + 1 from by omega] at hy
        clear hJ1 hJk
        gi_wp2
        refine ⟨fun h => (by cases h), hR.mono ?_⟩
        rintro e W3 (⟨rfl, hJ3, hk3⟩ | ⟨rfl, hJx3⟩)
        · have c3 : W3.cell? ⟨wr.heap.size, 1, none⟩ = some (.int .i64 ((b : Int) + 1)) := hk3.cell (by simp; omega) (by go_simp)
          have cx3 : W3.cell? ⟨bW, 0, none⟩ = some (.int .i64 x) := hk3.cell (by simpa using h1) (by go_simp)
          have cm3 : W3.cell? ⟨bM, 0, none⟩ = some (.int .i64 m) := hk3.cell (by simpa using h2) (by go_simp)
          have hz3 : wr.heap.size < W3.heap.size := World.block_lt_of_cell? W3 _ c3
          gi_wp2
          go_roundw
          case rel => exact ⟨k + 1, pre ++ [⟨k, hp k hlt⟩], hlt, ival (by rw [HS.out, HB2.out]; omega), by go_num, by rw [vals_snoc, HP.out, List.range_succ], hJ3, cx3, cm3, by omega⟩
          case measure => simp [intOf]; omega
        · gi_wp2
          refine bodyPost_ret (results_none rfl _ _ _) rfl ?_
          exact ⟨⟨_, rfl⟩, .inr ⟨_, trivial, hJx3⟩⟩
      · have HB2 : Hid (btC x m k = b) := by show _ = _; rw [HB.out, if_neg hkr]
        have hkr' : ¬ (k : Int) < (r : Int) := by omega
        have hJ1 := hJ pre wr _ none hJk (World.grownBy_alloc wr (.cells #[.int .i64 (frC x m k), .int .i64 ((b : Int))] 38) none) (fun r e => by cases e)
        obtain ⟨fn, tmps, assign, body, hy, hR⟩ := hY pre ⟨k, hp k hlt⟩ _ hJ1 hl
        dsimp only [encC] at hy
        rw [HB2.out] at hy
        clear hJ1 hJk
        gi_wp2
        refine ⟨fun h => (by cases h), hR.mono ?_⟩
        rintro e W3 (⟨rfl, hJ3, hk3⟩ | ⟨rfl, hJx3⟩)
        · have c3 : W3.cell? ⟨wr.heap.size, 1, none⟩ = some (.int .i64 ((b : Int))) := hk3.cell (by simp; omega) (by go_simp)
          have cx3 : W3.cell? ⟨bW, 0, none⟩ = some (.int .i64 x) := hk3.cell (by simpa using h1) (by go_simp)
          have cm3 : W3.cell? ⟨bM, 0, none⟩ = some (.int .i64 m) := hk3.cell (by simpa using h2) (by go_simp)
          have hz3 : wr.heap.size < W3.heap.size := World.block_lt_of_cell? W3 _ c3
          gi_wp2
          go_roundw
          case rel => exact ⟨k + 1, pre ++ [⟨k, hp k hlt⟩], hlt, ival (by rw [HS.out, HB2.out]; omega), by go_num, by rw [vals_snoc, HP.out, List.range_succ], hJ3, cx3, cm3, by omega⟩
          case measure => simp [intOf]; omega
        · gi_wp2
          refine bodyPost_ret (results_none rfl _ _ _) rfl ?_
          exact ⟨⟨_, rfl⟩, .inr ⟨_, trivial, hJx3⟩⟩
    · have e : k = m := by omega
      have H2 : Hid (vals pre = List.range m) := by rw [← e]; exact HP.out
      clear e HP
      gi_wp2
      go_end0
      exact ⟨⟨_, rfl⟩, .inl ⟨pre, H2.out, hJk⟩⟩
end Go.Proofs.YtnmhpbgiljchkaaGreatDoor
