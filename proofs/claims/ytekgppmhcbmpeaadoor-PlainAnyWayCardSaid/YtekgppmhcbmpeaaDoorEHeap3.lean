/-
  DERIVED. Hits as a heap: Push, Pop; the library's heap works on it.
-/
import Derived.Test.YtekgppmhcbmpeaaDoorEHeap2
set_option linter.unusedVariables false
set_option linter.unusedSimpArgs false
namespace Go.Proofs.YtekgppmhcbmpeaaDoor
open Go.RowKit
theorem step_append_eq {P : Program} {ops : Array Oper} {o : Oper} {a : Act} {w : World} {K : Act → World → Prop} {Q : Exit → Act → World → Prop} {E : Prop}
    (hg : o.guard = none) (s x : Operand) (t u : TypeId) (hop : o.op = Op.call { callee := Callee.builtin Builtin.append, args := #[s, x], argTypes := #[t, u] })
    (v xv v' : Value) (w' : World) (hs : a.eval s = v) (hx : a.eval x = xv) (hrun : (Builtin.append_ #[t, u] o.type #[v, xv]).run P w = .ok v' w') (hK : K (a.put o.dst v') w') :
    if Region.wanted o (yielded ops a.tmps) = true then Oper.wp P o a w K Q else E := by
  have hw : Region.wanted o (yielded ops a.tmps) = true := by simp [Region.wanted, hg]
  rw [if_pos hw]
  unfold Oper.wp
  simp [execOp, hop, resolve, invoke, builtin, hs, hx, hrun, Result.andThen]
  exact hK
/-- What a call may write that changes what is kept, and where the row lies then. -/
structure HSt (kp : Nat) (av v' : Value) (w w' : World) : Prop where
  stay : Stay (fun k => k = kp ∨ av.ownBlock = some k) w w'
  loc : ∀ k, v'.ownBlock = some k → av.ownBlock = some k ∨ w.heap.size ≤ k
abbrev hI (x : Ht) : Value := .iface 36 (.agg (hC x).toArray)
theorem stay_one' (b i : Nat) (W : World) (u : Value) : Stay (fun k => k = b) W (W.setCell ⟨b, i, none⟩ u) := Stay.setCell (F := fun k => k = b) (Stay.refl _ W) (p := ⟨b, i, none⟩) (fun _ => rfl) u
set_option maxRecDepth 100000 in
theorem apush_any (kp mb : Nat) (g : Int) (xs : List Ht) (x : Ht) (av : Value) (w : World) (hk : Kp w kp av mb g) (h : HRow w av xs) (hl : xs.length < 4398046511103) :
    Calls Tryd.prog 120 #[.pointer (some ⟨kp, 0, none⟩), hI x] w fun r w' => r = .returned (.tuple #[]) ∧ ∃ v', Kp w' kp v' mb g ∧ HRow w' v' (xs ++ [x]) ∧ HSt kp av v' w w' := by
  have bA : Below w.heap.size w (w.alloc (.cells (hC x).toArray 36)) := (Below.refl _ w).alloc (Nat.le_refl _) _
  have h1 : HRow (w.alloc (.cells (hC x).toArray 36)).drew av xs := (h.alloc _).drew
  obtain ⟨v', w', hap, ho, s2, hloc⟩ := ent_app (w.alloc (.cells (hC x).toArray 36)).drew xs [x] av h1 (some ⟨w.heap.size, 0, none⟩) 1 (fun _ => ⟨w.heap.size, 0, rfl, fun j u hu => by
    have h1 := new_cells w (hC x) 36 j u (by simpa using hu)
    have e1 : (⟨w.heap.size, 0, none⟩ : Addr).add j = ⟨w.heap.size, 0 + j, none⟩ := by unfold Addr.add; split <;> simp_all
    rw [e1] at h1; exact h1⟩) (by simp; omega)
  have st2 : Stay (fun k => k = kp ∨ av.ownBlock = some k) w w' := ((Stay.below bA).drew).trans (s2.mono (fun k _ hk => .inr hk))
  have hloc' : ∀ k, v'.ownBlock = some k → av.ownBlock = some k ∨ w.heap.size ≤ k := fun k hk => (hloc k hk).imp id (fun h => Nat.le_trans bA.size h)
  have hk0 : Kp (w.alloc (.cells (hC x).toArray 36)).drew kp av mb g := (bA.block kp hk.lt).trans hk
  have hk1 : Kp w' kp av mb g := hk0.kept s2 (fun e => hk.apart h e rfl)
  obtain ⟨-, p1, -, -, f1⟩ := hk1.cells
  obtain ⟨-, p0, -, -, -⟩ := hk.cells
  have f1 := f1 1
  have st3 : Stay (fun k => k = kp) w' (w'.setCell ⟨kp, 1, none⟩ v') := stay_one' _ _ _ _
  have fin : ∃ u, Kp (w'.setCell ⟨kp, 1, none⟩ v') kp u mb g ∧ HRow (w'.setCell ⟨kp, 1, none⟩ v') u (xs ++ [x]) ∧ HSt kp av u w (w'.setCell ⟨kp, 1, none⟩ v') :=
    ⟨v', hk1.set1 v', row_kept ho st3 (fun k hk e => hk1.apart ho hk e), ⟨st2.trans (st3.mono (fun k _ e => .inl e)), hloc'⟩⟩
  have HF := Hid.mk fin
  obtain ⟨a, c, hav, -⟩ := slice_form h
  subst hav
  obtain ⟨a2, cc2, hav2, -⟩ := slice_form ho
  subst hav2
  have p2 : (w.alloc (.cells (hC x).toArray 36)).cell? ⟨kp, 1, none⟩ = some (.slice a xs.length c) := cell_lat bA p0
  simp only [hC] at p2 hap
  obtain ⟨n, hn⟩ : ∃ n, n = (xs ++ [x]).length := ⟨_, rfl⟩
  rw [← hn] at hap HF
  have hta : ∀ (W : World), (Instr.typeAssert (.iface 36 (.agg #[.int .i64 x.d, .int .i64 x.i, .string x.c])) 20 36 false).run Tryd.prog W = .ok (.agg #[.int .i64 x.d, .int .i64 x.i, .string x.c]) W := fun W => by kernel_rfl
  clear bA h1 ho s2 hloc st2 hloc' hk0 hk1 st3 fin h hk hn
  show Calls _ _ #[_, .iface 36 (.agg #[.int .i64 x.d, .int .i64 x.i, .string x.c])] _ _
  go_enter Tryd.func120, Tryd.ntmps120
  go_wp2
  go_region_law (refine step_append_eq rfl _ _ _ _ rfl _ _ _ _ rfl rfl hap ?_)
  all_goals
    go_end0
    exact ⟨rfl, HF.out⟩
theorem row_less {W : World} {b cap n : Nat} {xs : List Ht} {x : Ht} (h : W.ownsRow 0 36 3 (.slice (some ⟨b, 0, none⟩) (n + 1) cap) (n + 1) ((xs ++ [x]).flatMap hC)) (hn : n = xs.length) : W.ownsRow 0 36 3 (.slice (some ⟨b, 0, none⟩) n cap) n (xs.flatMap hC) := by
  rcases h.2 with ⟨h0, _⟩ | ⟨g, c, cur, hv, k1, k2, k3, k4, k5, k6⟩
  · simp at h0
  · simp only [Value.slice.injEq, Option.some.injEq, Addr.mk.injEq] at hv
    obtain ⟨⟨rfl, -, -⟩, -, rfl⟩ := hv
    refine ⟨by rw [hn, flat_len3], .inr ⟨b, cap, cur, rfl, k1, k2, by omega, k4, k5, ?_⟩⟩
    have e : (cur.toList.take ((n + 1) * 3)).take (n * 3) = cur.toList.take (n * 3) := by rw [List.take_take]; congr 1; omega
    rw [← e, k6, hn, List.flatMap_append, List.take_left' (by rw [flat_len3])]
set_option maxRecDepth 100000 in
theorem apop_any (kp mb : Nat) (g : Int) (xs : List Ht) (x : Ht) (av : Value) (w : World) (hk : Kp w kp av mb g) (h : HRow w av (xs ++ [x])) (hl : xs.length < 4398046511103) :
    Calls Tryd.prog 119 #[.pointer (some ⟨kp, 0, none⟩)] w fun r w' => r = .returned (hI x) ∧ ∃ v', Kp w' kp v' mb g ∧ HRow w' v' xs ∧ HSt kp av v' w w' := by
  obtain ⟨n, hn⟩ : ∃ n, n = xs.length := ⟨_, rfl⟩
  obtain ⟨b, cap, hav, x0, x1, x2, fz⟩ := HRow.at' h n (by simp; omega)
  have hlen : (xs ++ [x]).length = n + 1 := by simp; omega
  have hat : (xs ++ [x])[n]'(by omega) = x := by subst hn; simp
  rw [hat] at x0 x1 x2
  rw [hlen] at hav
  subst hav
  obtain ⟨-, p1, -, -, f1⟩ := hk.cells
  have f1 := f1 1
  have hcap : n + 1 ≤ cap := by
    obtain ⟨a, c, hh, hc⟩ := slice_form h
    simp only [Value.slice.injEq] at hh
    obtain ⟨-, -, rfl⟩ := hh
    omega
  have ho : w.ownsRow 0 36 3 (.slice (some ⟨b, 0, none⟩) (n + 1) cap) (n + 1) ((xs ++ [x]).flatMap hC) := by have := h; unfold HRow at this; rw [hlen] at this; exact this
  obtain ⟨w1, hw⟩ : ∃ w1, w1 = w.alloc (.cells (hC x).toArray 36) := ⟨_, rfl⟩
  have bA : Below w.heap.size w w1 := by rw [hw]; exact (Below.refl _ w).alloc (Nat.le_refl _) _
  have p2 := cell_lat bA p1
  have hk1 : Kp w1 kp (.slice (some ⟨b, 0, none⟩) (n + 1) cap) mb g := (bA.block kp hk.lt).trans hk
  have f2 := hk1.cells.2.2.2.2 1
  have ho1 : w1.ownsRow 0 36 3 (.slice (some ⟨b, 0, none⟩) (n + 1) cap) (n + 1) ((xs ++ [x]).flatMap hC) := by rw [hw]; exact ho.alloc _
  have hbm : b ≠ kp := hk1.apart ho1 rfl
  have hr1 := row_less ho1 hn
  have st2 : Stay (fun k => k = kp) w1 (w1.setCell ⟨kp, 1, none⟩ (.slice (some ⟨b, 0, none⟩) n cap)) := stay_one' _ _ _ _
  have z0 : w1.cell? ⟨w.heap.size, 0, none⟩ = some (.int .i64 x.d) := by rw [hw]; exact SAt.new w (hC x) 36 0 _ rfl
  have z1 : w1.cell? ⟨w.heap.size, 1, none⟩ = some (.int .i64 x.i) := by rw [hw]; exact SAt.new w (hC x) 36 1 _ rfl
  have z2 : w1.cell? ⟨w.heap.size, 2, none⟩ = some (.string x.c) := by rw [hw]; exact SAt.new w (hC x) 36 2 _ rfl
  have hne : w.heap.size ≠ kp := Nat.ne_of_gt hk.lt
  have fin : ∃ v', Kp (w1.setCell ⟨kp, 1, none⟩ (.slice (some ⟨b, 0, none⟩) n cap)) kp v' mb g ∧ HRow (w1.setCell ⟨kp, 1, none⟩ (.slice (some ⟨b, 0, none⟩) n cap)) v' xs ∧ HSt kp (.slice (some ⟨b, 0, none⟩) (n + 1) cap) v' w (w1.setCell ⟨kp, 1, none⟩ (.slice (some ⟨b, 0, none⟩) n cap)) := by
    refine ⟨_, hk1.set1 _, ?_, ⟨(Stay.below bA).trans (st2.mono (fun k _ e => .inl e)), fun k hk => .inl hk⟩⟩
    subst hn
    exact row_kept hr1 st2 (fun k hk e => by cases hk; exact hbm e)
  have HF := Hid.mk fin
  have hw' : w.alloc (.cells #[.int .i64 x.d, .int .i64 x.i, .string x.c] 36) = w1 := hw.symm
  have hmi : ∀ (W : World), (Instr.makeInterface 36 (.agg #[.int .i64 x.d, .int .i64 x.i, .string x.c])).run Tryd.prog W = .ok (.iface 36 (.agg #[.int .i64 x.d, .int .i64 x.i, .string x.c])) W := fun W => by kernel_rfl
  obtain ⟨hw1, hw2⟩ := wr_n (n := n) (by omega)
  have i1 : (n : Int) < ((n + 1 : Nat) : Int) := by omega
  have i1' : (n : Int) < (n : Int) + 1 := by omega
  have i2 : (n : Int) ≤ (cap : Int) := by omega
  have i0 : (0 : Int) ≤ (n : Int) := by omega
  clear hr1 st2 fin hk h ho ho1 hk1 hlen hat hn hl fz hw bA
  show Calls _ _ _ _ fun r w' => r = .returned (.iface 36 (.agg #[.int .i64 x.d, .int .i64 x.i, .string x.c])) ∧ _
  go_enter Tryd.func119, Tryd.ntmps119
  go_wp2
  go_ret
  exact ⟨rfl, HF.out⟩
end Go.Proofs.YtekgppmhcbmpeaaDoor
