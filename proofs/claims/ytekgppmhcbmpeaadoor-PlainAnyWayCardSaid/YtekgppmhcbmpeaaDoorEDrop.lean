/-
  DERIVED. What is kept: the last one is pushed out.
-/
import Derived.Test.YtekgppmhcbmpeaaDoorEFill
import Derived.Deep.RegionHeldLaw
set_option linter.unusedVariables false
set_option linter.unusedSimpArgs false
namespace Go.Proofs.YtekgppmhcbmpeaaDoor
open Go.RowKit
theorem step_delete_eq {P : Program} {ops : Array Oper} {o : Oper} {a : Act} {w : World} {K : Act → World → Prop} {Q : Exit → Act → World → Prop} {E : Prop}
    (hg : o.guard = none) (s x : Operand) (t u : TypeId) (hop : o.op = Op.call { callee := Callee.builtin Builtin.delete, args := #[s, x], argTypes := #[t, u] })
    (v xv v' : Value) (w' : World) (hs : a.eval s = v) (hx : a.eval x = xv) (hrun : (Builtin.delete_ #[t, u] o.type #[v, xv]).run P w = .ok v' w') (hK : K (a.put o.dst v') w') :
    if Region.wanted o (yielded ops a.tmps) = true then Oper.wp P o a w K Q else E := by
  have hw : Region.wanted o (yielded ops a.tmps) = true := by simp [Region.wanted, hg]
  rw [if_pos hw]
  unfold Oper.wp
  simp [execOp, hop, resolve, invoke, builtin, hs, hx, hrun, Result.andThen]
  exact hK
/-- Behind a Pop: the map is told. -/
theorem drop_mid {w w2 : World} {kp mb : Nat} {v : Value} {g : Int} {xs ys X : List Ht} {x : Ht} (hK : KH w kp mb v g xs X) (hp : (x :: ys).Perm xs) (hm : HM kp mb g ys w2) (f : FrM kp w w2) :
    ∃ v2 w3, Kp w2 kp v2 mb g ∧ (∀ ty, (Builtin.delete_ #[95, 36] ty #[.map (some mb), .agg (hC x).toArray]).run Tryd.prog w2 = .ok (.tuple #[]) w3) ∧ Kp w3 kp v2 mb g ∧ HRow w3 v2 ys ∧ MS w3 mb ys ∧ FrK kp w w3 := by
  obtain ⟨v2, k2, r2, l2⟩ := hm
  have ha := hK.set.apart hK.kp' hK.row
  have m2 : MS w2 mb xs := hK.set.block (f.block mb hK.set.lt ha.1 (fun av e1 e2 => by
    rw [hK.kp'.cells.2.1] at e1; cases e1; exact ha.2 e2))
  have hnd : xs.Nodup := (hK.perm.nodup_iff).2 hK.srt.nodup
  have hn : x ∉ ys := (List.nodup_cons.1 ((hp.nodup_iff).2 hnd)).1
  obtain ⟨w3, hd, m3, s3⟩ := m2.del hK.xfit hp hn
  have ha2 := m2.apart k2 r2
  have k3 := k2.kept s3 (fun e => ha2.1 e.symm)
  exact ⟨v2, w3, k2, hd, k3, row_kept r2 s3 (fun k hk e => ha2.2 (e ▸ hk)), m3, (f.frk hK.kp' k2).trans (FrK.of_stay k2 k3 s3 (fun k _ e => (k2.ft k).2 (.inr (.inr e.symm))))⟩
theorem drop_end {w w3 w4 : World} {kp mb : Nat} {v v2 : Value} {g g' : Int} {xs ys X : List Ht} {x : Ht} (hK : KH w kp mb v g xs X) (hx : X = X.dropLast ++ [x]) (hp : (x :: ys).Perm xs) (hh : HeapN gtH ys ys.length) (k3 : Kp w3 kp v2 mb g) (r3 : HRow w3 v2 ys) (m3 : MS w3 mb ys) (f3 : FrK kp w w3)
    (k4 : Kp w4 kp v2 mb g') (r4 : HRow w4 v2 ys) (m4 : MS w4 mb ys) (s4 : Stay (fun k => k = mb ∨ k = kp) w3 w4) (g0 : 0 ≤ g') (gl : g' ≤ ys.length) : KK w4 kp X.dropLast ∧ FrK kp w w4 := by
  have hq := dropLast_perm hx hp hK.perm
  refine ⟨⟨mb, v2, g', ys, k4, r4, m4, hq, hh, fun y hy => hK.fit y ((List.dropLast_sublist X).subset hy), srt_drop hK.srt, g0, by rw [← hq.length_eq]; exact gl, by rw [List.length_dropLast]; have := hK.lim; omega⟩, f3.trans (FrK.of_stay k3 k4 s4 (fun k _ e => (k3.ft k).2 (e.elim (fun e => .inr (.inr e.symm)) .inl)))⟩
set_option maxHeartbeats 1000000 in
set_option maxRecDepth 100000 in
theorem drop_any (kp : Nat) (X : List Ht) (x : Ht) (w : World) (hk : KK w kp X) (hx : X = X.dropLast ++ [x]) :
    Calls Tryd.prog 53 #[Pk kp] w fun r w' => r = .returned (.tuple #[]) ∧ KK w' kp X.dropLast ∧ FrK kp w w' := by
  obtain ⟨mb, v, g, xs, hK⟩ := hk
  have hne : X ≠ [] := fun e => by rw [e] at hx; simp at hx
  obtain ⟨n, hn⟩ : ∃ n, xs.length = n + 1 := ⟨xs.length - 1, by have := hK.len; have := List.length_pos_iff.2 hne; omega⟩
  obtain ⟨ys, y, hy, hy0, hyl, hyp, hyh, -⟩ := pop_pure xs n hn hK.heap
  obtain ⟨y', hy', hyx⟩ := hK.first hne
  rw [hy0] at hy'
  have e1 := Option.some.inj hy'
  subst e1
  have e2 := last_eq hx hyx
  subst e2
  have hpop := fun W (h : HM kp mb g xs W) => pop_any (hops kp mb g) (hops2 kp mb g) xs ys x n W h hn hy
  have hpop1 := hpop w.drew (by obtain ⟨v0, k0, r0, l0⟩ := hK.hm; exact ⟨v0, k0, World.ownsRow.drew r0, l0⟩)
  obtain ⟨-, -, q2, -⟩ := hK.kp'.cells
  have HK := Hid.mk (And.intro hK (And.intro hx (And.intro hyp (And.intro hyh hyl))))
  have hta : ∀ (W : World), (Instr.typeAssert (.iface 36 (.agg #[.int .i64 x.d, .int .i64 x.i, .string x.c])) 20 36 false).run Tryd.prog W = .ok (.agg #[.int .i64 x.d, .int .i64 x.i, .string x.c]) W := fun W => by kernel_rfl
  simp only [hI, hC] at hpop1
  clear hpop hy hy0 hy' hyx hyp hyh hyl hne hn hx hK
  go_enter Tryd.func53, Tryd.ntmps53
  go_wp2
  go_region_held_law (fun w' => w'.cell? ⟨kp, 2, none⟩ = some (.map (some mb)))
    (first | exact q2 | exact q3 | exact q4)
    (first
      | (refine step_delete_eq rfl _ _ _ _ rfl _ _ _ _ rfl rfl (hdel _) ?_; have q4 : w3.cell? ⟨kp, 2, none⟩ = some (.map (some mb)) := k3.cells.2.2.1)
      | (go_at_call 65; refine hpop1.mono ?_; clear hpop1; rintro r w2 ⟨rfl, p2, f2⟩; obtain ⟨v2, w3, k2, hdel, k3, r3, m3, f3⟩ := drop_mid HK.out.1 HK.out.2.2.1 p2 (FrM.trans (FrM.below HK.out.1.kp' (b_drew w)) f2); have q3 : w2.cell? ⟨kp, 2, none⟩ = some (.map (some mb)) := k2.cells.2.2.1; simp only [hC] at hdel))
  all_goals
    clear hta
    obtain ⟨a2, c2, hv2, -⟩ := slice_form r3
    have hyl := HK.out.2.2.2.2
    have hg0 := HK.out.1.g0
    have hgl := HK.out.1.gl
    have hlim := HK.out.1.lim
    obtain ⟨-, p1, -, p3, pf⟩ := k3.cells
    rw [hv2, hyl] at p1
    have pf3 := pf 3
    clear pf
    have hwg : IntKind.i64.wrap (g + 1) = g + 1 := by unfold LIM at hlim; rw [IntKind.wrap_i64]; omega
    have s4 : Stay (fun k => k = kp) w3 (w3.setCell ⟨kp, 3, none⟩ (.int .i64 (g + 1))) := stay_one' _ _ _ _
    have k4 := k3.set3 (g + 1)
    have r4 : HRow (w3.setCell ⟨kp, 3, none⟩ (.int .i64 (g + 1))) v2 ys := row_kept r3 s4 (fun k hk e => k3.apart r3 hk e)
    have m4 : MS (w3.setCell ⟨kp, 3, none⟩ (.int .i64 (g + 1))) mb ys := m3.kept s4 (m3.apart k3 r3).1
    obtain ⟨w4, hw4⟩ : ∃ w4, w4 = w3.setCell ⟨kp, 3, none⟩ (.int .i64 (g + 1)) := ⟨_, rfl⟩
    rw [← hw4] at s4 k4 r4 m4
    obtain ⟨-, t1, -, t3, -⟩ := k4.cells
    rw [hv2, hyl] at t1
    have hw4' := hw4.symm
    by_cases hgt : (n : Int) < g + 1
    · have hfit : ∀ x ∈ ys, HtW x := fun y hy => HK.out.1.xfit y (HK.out.2.2.1.mem_iff.1 (List.mem_cons_of_mem _ hy))
      have hnd : ys.Nodup := (List.nodup_cons.1 ((HK.out.2.2.1.nodup_iff).2 ((HK.out.1.perm.nodup_iff).2 HK.out.1.srt.nodup))).2
      have hll : ys.length ≤ LIM := by
        have h1 := HK.out.2.2.1.length_eq
        have h2 := HK.out.1.len
        simp at h1; omega
      have hfill := fill_any kp mb v2 (g + 1) ys ys w4.drew k4 (World.ownsRow.drew r4) (m4.block rfl) hnd hfit hll
      have HE : Hid (∀ w5, Kp w5 kp v2 mb 0 → HRow w5 v2 ys → MS w5 mb ys → Stay (fun k => k = mb ∨ k = kp) w4.drew w5 → KK w5 kp X.dropLast ∧ FrK kp w w5) := fun w5 k5 r5 m5 s5 =>
        drop_end HK.out.1 HK.out.2.1 HK.out.2.2.1 HK.out.2.2.2.1 k3 r3 m3 f3 k5 r5 m5 ((s4.mono (fun k _ e => (show k = mb ∨ k = kp from .inr e))).trans s5.undrew) (by omega) (by omega)
      clear hw4 s4 k4 r4 m4 hfit hnd hll k3 r3 m3 f3 hdel k2 p2 f2 q3 hv2 hyl hg0 hgl hlim HK
      go_wp2
      go_region
      all_goals
        go_wp2_with (go_at_call 66; refine hfill.mono ?_; clear hfill; rintro r w5 ⟨rfl, k5, r5, m5, s5⟩)
        go_end0
        exact ⟨rfl, HE.out _ k5 r5 m5 s5⟩
    · have HE : Hid (KK w4.drew kp X.dropLast ∧ FrK kp w w4.drew) :=
        drop_end HK.out.1 HK.out.2.1 HK.out.2.2.1 HK.out.2.2.2.1 k3 r3 m3 f3 (w4 := w4.drew) k4 (World.ownsRow.drew r4) (m4.block rfl) (s4.mono (fun k _ e => (show k = mb ∨ k = kp from .inr e))).drew (by omega) (by omega)
      clear hw4 s4 k4 r4 m4 k3 r3 m3 f3 hdel k2 p2 f2 q3 hv2 hyl hg0 hgl hlim HK
      go_wp2
      go_region
      all_goals
        go_wp2
        go_end0
        exact ⟨rfl, HE.out⟩
end Go.Proofs.YtekgppmhcbmpeaaDoor
