/-
  DERIVED. BPack, BBytesL, BPackL, BAdd, BBytesH, as one text.
-/
import Derived.Test.YtjdpolhjbkpnlaaGreatDoorLzAE
import Derived.Test.YtjdpolhjbkpnlaaGreatDoorLzAD
set_option linter.unusedVariables false
set_option linter.unusedSimpArgs false
namespace Go.Proofs.YtjdpolhjbkpnlaaGreatDoor
open Go.RowKit Go.Shelf Go.Proofs.SealMath
attribute [local go_sem] Oper.semAt_some
theorem mixed : Tryz.prog.follows .mixedOrders = true := by kernel_rfl
theorem enC_len (e : En) : (enC e).length = 5 := rfl
theorem row_en {w : World} {g off : Nat} {l : List En} (h : RowAt w g off (l.flatMap enC)) {A : World} (hA : A.heap[g]? = w.heap[g]?) (i : Nat) (hi : i < l.length) :
    A.cell? ⟨g, off + i * 5, none⟩ = some (.int .i64 l[i].v) ∧ A.cell? ⟨g, off + i * 5 + 1, none⟩ = some (.string l[i].c) ∧ A.cell? ⟨g, off + i * 5 + 2, none⟩ = some (.int .i64 l[i].i) ∧ A.cell? ⟨g, off + i * 5 + 3, none⟩ = some (.int .i64 l[i].s) ∧ A.cell? ⟨g, off + i * 5 + 4, none⟩ = some (.bool l[i].d) := by
  have hc : ∀ o, A.cell? ⟨g, o, none⟩ = w.cell? ⟨g, o, none⟩ := fun o => by simp [World.cell?, hA]
  have hj : ∀ j v, j < 5 → (enC l[i])[j]? = some v → A.cell? ⟨g, off + i * 5 + j, none⟩ = some v := fun j v hj hv => by
    rw [hc, Nat.add_assoc]
    exact h _ _ (by rw [flat_at enC 5 enC_len l i j hi hj]; exact hv)
  exact ⟨hj 0 _ (by omega) rfl, hj 1 _ (by omega) rfl, hj 2 _ (by omega) rfl, hj 3 _ (by omega) rfl, hj 4 _ (by omega) rfl⟩
theorem box_cell {w A : World} {b t : Nat} {v : Value} (h : w.heap[b]? = some (.cells #[v] t (0, 0))) (hA : A.heap[b]? = w.heap[b]?) : A.cell? ⟨b, 0, none⟩ = some v := by simp [World.cell?, hA, h]
set_option maxRecDepth 100000 in
set_option maxHeartbeats 1000000 in
theorem packE_st (l : List En) (g off cap Bl Bf n : Nat) (K : Nat → Prop) (w : World)
    (hl : w.heap[Bl]? = some (.cells #[.slice (some ⟨g, off, none⟩) l.length cap] 34 (0, 0))) (hf : w.heap[Bf]? = some (.cells #[.func (.func 71) #[] #[]] 97 (0, 0)))
    (hr : RowAt w g off (l.flatMap enC)) (hK' : K Bl ∧ K Bf ∧ K g) (hKc : ∀ k, K k → ∃ c t m, w.heap[k]? = some (.cells c t m)) (hn : l.length ≤ 2097152) (hcap : l.length ≤ cap) (hok : ∀ e ∈ l, Ok e) :
    SeqSt Fence.wide n Tryz.prog 97 #[Pt Bl, Pt Bf] (encP enB g off 5 cap) (fun p x => p ++ [x] <+: pk enB l) TrB (KpB K) (fun p => p = pk enB l) (fun _ => True) none w := fun lp J Jx W hW hJ hJx hY h0 => by
  have hKl : ∀ k, K k → k < w.heap.size := fun k hk => by obtain ⟨c, t, m, h⟩ := hKc k hk; exact (Array.getElem?_eq_some_iff.1 h).1
  have P0 : PkI enB l K w J (.slice none 0 0) 0 0 [] [] W :=
    { ia := rfl, il := Nat.zero_le _, eq := rfl, le := Nat.zero_le _, row := ⟨rfl, .inl ⟨rfl, rfl⟩⟩, j := h0, kept := fun k hk => hW.block k (hKl k hk), new := (fun k e => by cases e), size := hW.size }
  have hX := box_cell hl (P0.kept Bl hK'.1)
  have hF := box_cell hf (P0.kept Bf hK'.2.1)
  refine callsIn_of_wp Tryz.func97 rfl trivial ?_ rfl
  simp only [Tryz.ntmps97, List.size_toArray, List.length_cons, List.length_nil, Nat.reduceAdd, Nat.reduceSub, Array.replicate_succ, Array.replicate_zero, List.push_toArray, List.append_toArray, List.nil_append, List.cons_append]
  gi_wp2
  gi_loopw [4, 5, 11] (fun pv fv iv wr => ∃ (pre : List (Nat × List En)) (cur : List En) (a i : Nat), fv = .int .i64 a ∧ iv = .int .i64 i ∧ PkI enB l K w J pv a i pre cur wr) (fun _ _ iv _ => l.length - (intOf iv).toNat)
  case atStart => exact ⟨[], [], 0, 0, rfl, rfl, P0⟩
  case round =>
    obtain ⟨pre, cur, a, i, rfl, rfl, hP⟩ := hrel
    have hX := box_cell hl (hP.kept Bl hK'.1)
    have hF := box_cell hf (hP.kept Bf hK'.2.1)
    have hil := hP.il
    have hbl : Bl < wr.heap.size := World.block_lt_of_cell? wr _ hX
    have hbf : Bf < wr.heap.size := World.block_lt_of_cell? wr _ hF
    by_cases hlt : i < l.length
    · obtain ⟨x0, x1, x2, x3, x4⟩ := row_en hr (hP.kept g hK'.2.2) i hlt
      have hE := entry_o l[i] (hok _ (List.getElem_mem hlt))
      obtain ⟨e, he⟩ : ∃ e, e = l[i] := ⟨_, rfl⟩
      rw [← he] at x0 x1 x2 x3 x4 hE
      have HE := Hid.mk he
      clear he
      have HP := Hid.mk hP
      have i1 : (i : Int) < (l.length : Int) := by omega
      clear hP P0
      gi_wp2_with fail
      refine ⟨trivial, fun h => (by cases h), (callsIn_wide.2 (hE _)).mono ?_⟩
      rintro r w2 ⟨X, rfl, hXs, HX, b2⟩
      have hb : Below wr.heap.size wr w2 := chain ((Below.refl _ wr).alloc (Nat.le_refl _) _) b2 (Nat.le_refl _)
      have hP2 := HP.out.below hb hKl hJ
      clear HP b2 x0 x1 x2 x3 x4 hE hX hF hbl hbf
      obtain ⟨pa, pc, hv, hpc⟩ := slice_form hP2.row
      have hX := box_cell hl (hP2.kept Bl hK'.1)
      have hle := hP2.le
      obtain ⟨N, hN⟩ : ∃ N, N = ln enB cur := ⟨_, rfl⟩
      rw [← hN] at hv hle hpc
      have HN := Hid.mk hN
      clear hN
      have hXl : X.size ≤ 153 := by rw [hXs]; have := (enB_len e).1; have := (hok e (HE.out ▸ List.getElem_mem hlt)).c; omega
      have HXs := Hid.mk hXs
      clear hXs
      rw [hv]
      have HV := Hid.mk hv
      clear hv
      have HP := Hid.mk hP2
      clear hP2
      by_cases hfl : 4096 < N + X.size
      · have hfl' : (4096 : Int) < (N : Int) + (X.size : Int) := by omega
        have hP3 := HP.out.below ((Below.refl _ w2).drew) hKl hJ
        have hia := hP3.ia
        have hai : (a : Int) ≤ (i : Int) := by omega
        have hic : (i : Int) ≤ (cap : Int) := by omega
        have hca : ¬ (cap = a) := by omega
        have heq := hP3.eq
        have hdr : l.drop i = e :: l.drop (i + 1) := by rw [HE.out]; exact List.drop_eq_getElem_cons hlt
        rw [hdr, pkA, if_pos (by rw [← HN.out, ← HXs.out]; exact hfl)] at heq
        obtain ⟨fn, tmps, assign, body, hy, hR⟩ := hY pre (a, cur) _ _ hP3.j ⟨pkA enB (a + cur.length) [e] (l.drop (i + 1)), by rw [heq]; simp⟩
        simp only [encP] at hy
        have hcl : cur.length = i - a := by omega
        rw [hcl] at hy
        have HEQ := Hid.mk heq
        clear heq hdr hcl
        have hrow := hP3.row
        rw [HV.out, ← HN.out] at hrow
        obtain ⟨bs, hbs⟩ : ∃ bs, bs = cur.flatMap enB := ⟨_, rfl⟩
        have hbl : bs.length = N := by rw [hbs, HN.out]; rfl
        rw [← hbs] at hrow hy
        have hconv : ∀ A : World, A.ownsRow 0 5 1 (.slice pa N pc) N (bs.map BV) → (convert 98 9 (.slice pa N pc)).run Tryz.prog A = .ok (.string ⟨bs.toArray⟩) A := fun A hA => conv_own bs (by rw [hbl]; exact hA)
        have HB := Hid.mk (And.intro hbs hbl)
        have hX3 : w2.drew.cell? ⟨Bl, 0, none⟩ = some (.slice (some ⟨g, off, none⟩) l.length cap) := hX
        clear hbs hbl hia
        gi_wp2_with fail
        refine region_held mixed 9 rfl (S := fun w' => w'.cell? ⟨Bl, 0, none⟩ = some (.slice (some ⟨g, off, none⟩) l.length cap) ∧ w'.ownsRow 0 5 1 (.slice pa N pc) N (bs.map BV)) ?_
        refine AnyS.take (i := 0) (v := ?v0) (by kernel_rfl) rfl (by kernel_rfl) (by kernel_rfl) (by kernel_rfl) (fun _ _ _ h => h) ⟨Or.inl ⟨by rfl, fun w' hS => ?y0⟩, fun _ => rfl⟩ ⟨hX3, hrow⟩ ?_
        case y0 => go_simp; rfl
        refine AnyS.take (i := 1) (v := ?v1) (by kernel_rfl) rfl (by kernel_rfl) (by kernel_rfl) (by kernel_rfl) (fun _ _ _ h => h) ⟨Or.inl ⟨by rfl, fun w' hS => ?y1⟩, fun _ => rfl⟩ ⟨hX3, hrow⟩ ?_
        case y1 => have g1 := hS.1; go_simp; rfl
        refine AnyS.take (i := 2) (v := ?v2) (by kernel_rfl) rfl (by kernel_rfl) (by kernel_rfl) (by kernel_rfl) (fun _ _ _ h => h) ⟨Or.inl ⟨by rfl, fun w' hS => ?y2⟩, fun _ => rfl⟩ ⟨hX3, hrow⟩ ?_
        case y2 => go_simp; rfl
        refine AnyS.take (i := 3) (v := ?v3) (by kernel_rfl) rfl (by kernel_rfl) (by kernel_rfl) (by kernel_rfl) (fun _ _ _ h => h) ⟨Or.inl ⟨by rfl, fun w' hS => ?y3⟩, fun _ => rfl⟩ ⟨hX3, hrow⟩ ?_
        case y3 => go_simp; rfl
        refine AnyS.take (i := 4) (v := ?v4) (by kernel_rfl) rfl (by kernel_rfl) (by kernel_rfl) (by kernel_rfl) (fun _ _ _ h => h) ⟨Or.inl ⟨by rfl, fun w' hS => ?y4⟩, fun _ => rfl⟩ ⟨hX3, hrow⟩ ?_
        case y4 => go_simp; rfl
        refine AnyS.take (i := 5) (v := ?v5) (by kernel_rfl) rfl (by kernel_rfl) (by kernel_rfl) (by kernel_rfl) (fun _ _ _ h => h) ⟨Or.inl ⟨by rfl, fun w' hS => ?y5⟩, fun _ => rfl⟩ ⟨hX3, hrow⟩ ?_
        case y5 => go_simp; rfl
        refine AnyS.take (i := 6) (v := .string ⟨bs.toArray⟩) (by kernel_rfl) rfl (by kernel_rfl) (by kernel_rfl) (by kernel_rfl) (fun _ _ _ h => h) ⟨Or.inl ⟨by rfl, fun w' hS => ?y6⟩, fun _ => rfl⟩ ⟨hX3, hrow⟩ ?_
        case y6 => have g1 := hconv w' hS.2; clear hS; go_simp
        refine AnyS.one (i := 7) (by kernel_rfl) (wpOpIn_step rfl (fun K hK => ?_))
        go_simp
        refine ⟨fun h => (by cases h), hR.mono ?_⟩
        rintro r W3 (⟨rfl, hJ3, hk3⟩ | ⟨rfl, hJ3, hk3⟩)
        · obtain ⟨row3, kept3⟩ := hP3.took hKc hk3
          have hz3 : w.heap.size ≤ W3.heap.size := Nat.le_trans hP3.size hk3.1
          have hX4 := box_cell hl (kept3 Bl hK'.1)
          rw [HV.out, ← HN.out, ← HB.out.1] at row3
          refine hK _ _ ⟨⟨hX4, row3⟩, ?_⟩
          clear hK K hX3 hrow hy hR hconv
          refine AnyS.take (i := 8) (v := ?v8) (by kernel_rfl) rfl (by kernel_rfl) (by kernel_rfl) (by kernel_rfl) (fun _ _ _ h => h) ⟨Or.inl ⟨by rfl, fun w' hS => ?y8⟩, fun _ => rfl⟩ ⟨hX4, row3⟩ ?_
          case y8 => go_simp; rfl
          refine AnyS.done (by kernel_rfl) ?_
          gi_wp2_with fail
          refine region_held mixed 5 rfl (S := fun _ => True) ?_
          refine AnyS.take (i := 0) (v := ?b0) (by kernel_rfl) rfl (by kernel_rfl) (by kernel_rfl) (by kernel_rfl) (fun _ _ _ h => h) ⟨Or.inl ⟨by rfl, fun w' hS => ?z0⟩, fun _ => rfl⟩ trivial ?_
          case z0 => go_simp; rfl
          refine AnyS.take (i := 1) (v := ?b1) (by kernel_rfl) rfl (by kernel_rfl) (by kernel_rfl) (by kernel_rfl) (fun _ _ _ h => h) ⟨Or.inl ⟨by rfl, fun w' hS => ?z1⟩, fun _ => rfl⟩ trivial ?_
          case z1 => go_simp; rfl
          refine AnyS.take (i := 2) (v := ?b2) (by kernel_rfl) rfl (by kernel_rfl) (by kernel_rfl) (by kernel_rfl) (fun _ _ _ h => h) ⟨Or.inl ⟨by rfl, fun w' hS => ?z2⟩, fun _ => rfl⟩ trivial ?_
          case z2 => go_simp; rfl
          refine AnyS.take (i := 3) (v := ?b3) (by kernel_rfl) rfl (by kernel_rfl) (by kernel_rfl) (by kernel_rfl) (fun _ _ _ h => h) ⟨Or.inl ⟨by rfl, fun w' hS => ?z3⟩, fun _ => rfl⟩ trivial ?_
          case z3 => go_simp; rfl
          refine AnyS.take (i := 4) (v := ?b4) (by kernel_rfl) rfl (by kernel_rfl) (by kernel_rfl) (by kernel_rfl) (fun _ _ _ h => h) ⟨Or.inl ⟨by rfl, fun w' hS => ?z4⟩, fun _ => rfl⟩ trivial ?_
          case z4 => go_simp; rfl
          refine AnyS.done (by kernel_rfl) ?_
          obtain ⟨qa, qc, hq, hqc, row0, hob⟩ := cut0 row3
          cases hq
          have row0' : ({ W3 with drawn := W3.drawn + 1 } : World).ownsRow 0 5 1 (.slice pa 0 pc) ([] : List UInt8).length (([] : List UInt8).map BV) := row_kept (F := fun _ => False) row0 (.below ((Below.refl _ W3).drew)) (fun _ _ e => e)
          obtain ⟨v', W4, hr4, ho4, s4, hloc4⟩ := append_str2 _ 98 _ _ row0' X (by simp; omega)
          gi_wp2_with (gi_at_builtin; refine wpListIn_append_eq rfl _ _ _ _ rfl _ _ _ _ rfl rfl hr4 ?_)
          refine ⟨⟨pre ++ [(a, cur)], [] ++ [l[i]], i, i + 1, rfl, ival (by omega), ?_⟩, by simp only [intOf]; omega⟩
          have hia := hP3.ia
          refine PkI.more (pv := .slice pa 0 pc) (B := { W3 with drawn := W3.drawn + 1 }) hlt (by simp) ?_ ?_ (fun k hk => ?_) (fun k hk => hP3.new k (by rw [HV.out, ← hob]; exact hk)) ?_ kept3 hz3 hKl hJ ?_ s4 hloc4
          · rw [HEQ.out, hia, HE.out]; simp
          · rw [← HE.out, ← HXs.out]; simp [ln]; omega
          · obtain ⟨c, hc⟩ := row_block row0' hk; exact ⟨_, _, _, hc⟩
          · refine hJ _ _ W3 _ _ ?_ (TrB.below (fun k hk => ?_) ((Below.refl _ W3).drew))
            · rw [HV.out, ← hob] at hJ3; exact hJ3
            · obtain ⟨c, hc⟩ := row_block row0 hk; exact ⟨_, _, _, hc⟩
          · rw [HX.out, HE.out] at ho4; exact ho4
        · obtain ⟨row3, kept3⟩ := hP3.took hKc hk3
          have hX4 := box_cell hl (kept3 Bl hK'.1)
          rw [HV.out, ← HN.out, ← HB.out.1] at row3
          refine hK _ _ ⟨⟨hX4, row3⟩, ?_⟩
          clear hK K hX3 hrow hy hR hconv
          refine AnyS.take (i := 8) (v := ?c8) (by kernel_rfl) rfl (by kernel_rfl) (by kernel_rfl) (by kernel_rfl) (fun _ _ _ h => h) ⟨Or.inl ⟨by rfl, fun w' hS => ?x8⟩, fun _ => rfl⟩ ⟨hX4, row3⟩ ?_
          case x8 => go_simp; rfl
          refine AnyS.done (by kernel_rfl) ?_
          gi_wp2_with fail
          simp only [Act.put, List.setIfInBounds_toArray, List.set_cons_zero, List.set_cons_succ]
          refine bodyPost_ret (results_none rfl _ _ _) rfl ?_
          exact ⟨⟨_, rfl⟩, .inr ⟨_, _, trivial, hJ3⟩⟩
      · have hfl' : (N : Int) + (X.size : Int) ≤ 4096 := by omega
        have hrow := HP.out.row
        rw [HV.out] at hrow
        obtain ⟨v', W4, hr4, ho4, s4, hloc4⟩ := append_str2 w2 98 _ (cur.flatMap enB) hrow X (by have : (cur.flatMap enB).length = N := HN.out.symm; omega)
        have HR := Hid.mk hrow
        clear hrow
        gi_wp2_with (gi_at_builtin; refine wpListIn_append_eq rfl _ _ _ _ rfl _ _ _ _ rfl rfl hr4 ?_)
        refine ⟨⟨pre, cur ++ [l[i]], a, i + 1, rfl, ival (by omega), ?_⟩, by simp only [intOf]; omega⟩
        have hP2 := HP.out
        have heq := hP2.eq
        have hdr : l.drop i = e :: l.drop (i + 1) := by rw [HE.out]; exact List.drop_eq_getElem_cons hlt
        rw [hdr, pkA, if_neg (by rw [← HN.out, ← HXs.out]; exact hfl), HE.out] at heq
        refine PkI.more (pv := u4) hlt hP2.ia heq ?_ hP2.cells hP2.new hP2.j hP2.kept hP2.size hKl hJ ?_ ?_ ?_
        · rw [← HE.out, ← HXs.out, ← HN.out]; omega
        · rw [HX.out, HE.out] at ho4; exact ho4
        · rw [HV.out]; exact s4
        · rw [HV.out]; exact hloc4
    · have e1 : i = l.length := by omega
      subst e1
      have heq := hP.eq
      rw [List.drop_length, pkA] at heq
      by_cases hcu : a < l.length
      · have hne : cur.isEmpty = false := by have := hP.ia; cases cur with | nil => simp at this; omega | cons _ _ => rfl
        rw [hne] at heq
        simp only [Bool.false_eq_true, if_false] at heq
        have hP3 := hP.below ((Below.refl _ wr).drew) hKl hJ
        have hia := hP3.ia
        obtain ⟨fn, tmps, assign, body, hy, hR⟩ := hY pre (a, cur) _ _ hP3.j ⟨[], by rw [heq]; simp⟩
        simp only [encP] at hy
        have hcl : cur.length = l.length - a := by omega
        rw [hcl] at hy
        have HEQ := Hid.mk heq
        clear heq hcl hP P0
        obtain ⟨pa, pc, hv, hpc⟩ := slice_form hP3.row
        obtain ⟨N, hN⟩ : ∃ N, N = ln enB cur := ⟨_, rfl⟩
        rw [← hN] at hv hpc
        have HN := Hid.mk hN
        have hrow := hP3.row
        rw [hv, ← hN] at hrow
        obtain ⟨bs, hbs⟩ : ∃ bs, bs = cur.flatMap enB := ⟨_, rfl⟩
        have hbl' : bs.length = N := by rw [hbs, HN.out]; rfl
        rw [← hbs] at hrow hy
        have hconv : ∀ A : World, A.ownsRow 0 5 1 (.slice pa N pc) N (bs.map BV) → (convert 98 9 (.slice pa N pc)).run Tryz.prog A = .ok (.string ⟨bs.toArray⟩) A := fun A hA => conv_own bs (by rw [hbl']; exact hA)
        rw [hv]
        have HV := Hid.mk hv
        have HB := Hid.mk (And.intro hbs hbl')
        have hX3 : wr.drew.cell? ⟨Bl, 0, none⟩ = some (.slice (some ⟨g, off, none⟩) l.length cap) := hX
        have hai : (a : Int) < (l.length : Int) := by omega
        have hai' : (a : Int) ≤ (l.length : Int) := by omega
        have hic : (l.length : Int) ≤ (cap : Int) := by omega
        have hca : ¬ (cap = a) := by omega
        clear hbs hbl' hia hv hN
        gi_wp2_with fail
        refine region_held mixed 7 rfl (S := fun w' => w'.cell? ⟨Bl, 0, none⟩ = some (.slice (some ⟨g, off, none⟩) l.length cap) ∧ w'.ownsRow 0 5 1 (.slice pa N pc) N (bs.map BV)) ?_
        refine AnyS.take (i := 0) (v := ?f0) (by kernel_rfl) rfl (by kernel_rfl) (by kernel_rfl) (by kernel_rfl) (fun _ _ _ h => h) ⟨Or.inl ⟨by rfl, fun w' hS => ?g0⟩, fun _ => rfl⟩ ⟨hX3, hrow⟩ ?_
        case g0 => go_simp; rfl
        refine AnyS.take (i := 1) (v := ?f1) (by kernel_rfl) rfl (by kernel_rfl) (by kernel_rfl) (by kernel_rfl) (fun _ _ _ h => h) ⟨Or.inl ⟨by rfl, fun w' hS => ?g1⟩, fun _ => rfl⟩ ⟨hX3, hrow⟩ ?_
        case g1 => have g1 := hS.1; go_simp; rfl
        refine AnyS.take (i := 2) (v := ?f2) (by kernel_rfl) rfl (by kernel_rfl) (by kernel_rfl) (by kernel_rfl) (fun _ _ _ h => h) ⟨Or.inl ⟨by rfl, fun w' hS => ?g2⟩, fun _ => rfl⟩ ⟨hX3, hrow⟩ ?_
        case g2 => go_simp; rfl
        refine AnyS.take (i := 3) (v := ?f3) (by kernel_rfl) rfl (by kernel_rfl) (by kernel_rfl) (by kernel_rfl) (fun _ _ _ h => h) ⟨Or.inl ⟨by rfl, fun w' hS => ?g3⟩, fun _ => rfl⟩ ⟨hX3, hrow⟩ ?_
        case g3 => go_simp; rfl
        refine AnyS.take (i := 4) (v := ?f4) (by kernel_rfl) rfl (by kernel_rfl) (by kernel_rfl) (by kernel_rfl) (fun _ _ _ h => h) ⟨Or.inl ⟨by rfl, fun w' hS => ?g4⟩, fun _ => rfl⟩ ⟨hX3, hrow⟩ ?_
        case g4 => go_simp; rfl
        refine AnyS.take (i := 5) (v := .string ⟨bs.toArray⟩) (by kernel_rfl) rfl (by kernel_rfl) (by kernel_rfl) (by kernel_rfl) (fun _ _ _ h => h) ⟨Or.inl ⟨by rfl, fun w' hS => ?g5⟩, fun _ => rfl⟩ ⟨hX3, hrow⟩ ?_
        case g5 => have g1 := hconv w' hS.2; clear hS; go_simp
        refine AnyS.one (i := 6) (by kernel_rfl) (wpOpIn_step rfl (fun K hK => ?_))
        go_simp
        refine ⟨fun h => (by cases h), hR.mono ?_⟩
        rintro r W3 (⟨rfl, hJ3, hk3⟩ | ⟨rfl, hJ3, hk3⟩)
        all_goals
          obtain ⟨row3, kept3⟩ := hP3.took hKc hk3
          have hX4 := box_cell hl (kept3 Bl hK'.1)
          rw [HV.out, ← HN.out, ← HB.out.1] at row3
          refine hK _ _ ⟨⟨hX4, row3⟩, AnyS.done (by kernel_rfl) ?_⟩
          clear hK K hX3 hrow hy hR hconv
          gi_wp2_with fail
          go_end0
        · exact ⟨⟨_, rfl⟩, .inl ⟨_, _, HEQ.out.symm, hJ3⟩⟩
        · exact ⟨⟨_, rfl⟩, .inr ⟨_, _, trivial, hJ3⟩⟩
      · have hne : cur.isEmpty = true := by have := hP.ia; cases cur with | nil => rfl | cons _ _ => simp at this; omega
        rw [hne] at heq
        simp only [if_true, List.append_nil] at heq
        have HEQ := Hid.mk heq
        clear heq
        have HP := Hid.mk hP
        clear hP
        have hcu' : ¬ (a : Int) < (l.length : Int) := by omega
        gi_wp2_with fail
        go_end0
        exact ⟨⟨_, rfl⟩, .inl ⟨u4.ownBlock, by rw [HEQ.out]; exact HP.out.j⟩⟩
end Go.Proofs.YtjdpolhjbkpnlaaGreatDoor
set_option linter.unusedVariables false
set_option linter.unusedSimpArgs false
namespace Go.Proofs.YtjdpolhjbkpnlaaGreatDoor
open Go.RowKit Go.Proofs.SealMath
theorem li_fin {e : En} {X Y Z : ByteArray} {n m : Nat} {w w' : World} (h1 : Hid (X.data.toList = plB e)) (h2 : Hid (Y.data.toList = pvL 9 n)) (h3 : Hid (Z.data.toList = pvL 9 m)) (k1 : X.size ≤ 142) (k2 : Y.size ≤ 10) (k3 : Z.size ≤ 10) (hb : Below w.heap.size w w') :
    ∃ U : ByteArray, Ending.returned (.string (X ++ Y ++ Z)) = .returned (.string U) ∧ U.size ≤ 162 ∧ Hid (U.data.toList = lnB ⟨e, n, m⟩) ∧ Below w.heap.size w w' := by
  exact ⟨_, rfl, by simp only [ByteArray.size_append]; omega, by show _ = _; simp [lnB, h1.out, h2.out, h3.out], hb⟩
set_option maxHeartbeats 8000000 in
set_option maxRecDepth 100000 in
theorem line_x (v i : Nat) (s : Int) (d : Bool) (c : ByteArray) (n m : Nat) (w : World) (hv : v < 4294967296) (hi : i < 9223372036854775808) (hn : n < 9223372036854775808) (hm : m < 9223372036854775808) (hc : c.size ≤ 128) :
    Calls Tryz.prog 74 #[.agg #[.int .i64 v, .string c, .int .i64 i, .int .i64 s, .bool d, .int .i64 n, .int .i64 m]] w fun e w' => ∃ X : ByteArray, e = .returned (.string X) ∧ X.size ≤ 162 ∧ Hid (X.data.toList = lnB ⟨⟨v, c, i, s, d⟩, n, m⟩) ∧ Below w.heap.size w w' := by
  have U0 := SAt.new w (lnC ⟨⟨v, c, i, s, d⟩, n, m⟩) 135
  have ba : Below w.heap.size w (w.alloc (.cells (lnC ⟨⟨v, c, i, s, d⟩, n, m⟩).toArray 135)) := (Below.refl _ w).alloc (Nat.le_refl _) _
  obtain ⟨w1, hw1⟩ : ∃ w1, w1 = w.alloc (.cells (lnC ⟨⟨v, c, i, s, d⟩, n, m⟩).toArray 135) := ⟨_, rfl⟩
  go_enter Tryz.func74, Tryz.ntmps74
  go_wp2
  rw [← hw1] at U0 ba
  have e1 := hw1.symm
  simp only [lnC, enC, List.cons_append, List.nil_append] at e1
  rw [e1]
  clear hw1 e1
  have q0 := U0 0 _ rfl
  have q1 := U0 1 _ rfl
  have q2 := U0 2 _ rfl
  have q3 := U0 3 _ rfl
  have q4 := U0 4 _ rfl
  have q5 := U0 5 _ rfl
  have q6 := U0 6 _ rfl
  dsimp only at q0 q1 q2 q3 q4 q5 q6
  clear U0
  go_region_held (fun w' => Below w1.heap.size w1 w' ∧ w'.cell? ⟨w.heap.size, 0, none⟩ = some (.int .i64 v) ∧ w'.cell? ⟨w.heap.size, 1, none⟩ = some (.string c) ∧ w'.cell? ⟨w.heap.size, 2, none⟩ = some (.int .i64 i) ∧ w'.cell? ⟨w.heap.size, 3, none⟩ = some (.int .i64 s) ∧ w'.cell? ⟨w.heap.size, 4, none⟩ = some (.bool d) ∧ w'.cell? ⟨w.heap.size, 5, none⟩ = some (.int .i64 n) ∧ w'.cell? ⟨w.heap.size, 6, none⟩ = some (.int .i64 m))
    ((refine (fun hb => ⟨hb, cell_lat hb q0, cell_lat hb q1, cell_lat hb q2, cell_lat hb q3, cell_lat hb q4, cell_lat hb q5, cell_lat hb q6⟩) ?_; first | exact bb | exact b_drew w1))
    (first
      | (go_at_call 98; refine (place_x _ _ _ _ _ _ (by omega) (by omega) (by omega)).mono ?_; rintro e w2 ⟨X, rfl, hX, HX, b2⟩; have bb : Below w1.heap.size w1 w2 := (by first | exact chain bb b2 (Nat.le_refl _) | exact below_d b2))
      | (go_at_call 75; refine (number_x _ _ (by omega)).mono ?_; rintro e w2 ⟨Y, rfl, hY, HY, b2⟩; have bb : Below w1.heap.size w1 w2 := (by first | exact chain bb b2 (Nat.le_refl _) | exact below_d b2)))
  all_goals
    go_wp2
    go_ret
    exact li_fin ‹_› ‹_› ‹_› ‹_› ‹_› ‹_› (chain ba bb (Nat.le_refl _))
end Go.Proofs.YtjdpolhjbkpnlaaGreatDoor
set_option linter.unusedVariables false
set_option linter.unusedSimpArgs false
namespace Go.Proofs.YtjdpolhjbkpnlaaGreatDoor
open Go.RowKit Go.Shelf Go.Proofs.SealMath
attribute [local go_sem] Oper.semAt_some
structure OkL (l : Ln) : Prop where
  e : Ok l.e
  k : l.k < 9223372036854775808
  p : l.p < 9223372036854775808
theorem line_o (l : Ln) (h : OkL l) (w : World) :
    Calls Tryz.prog 74 #[.agg #[.int .i64 l.e.v, .string l.e.c, .int .i64 l.e.i, .int .i64 l.e.s, .bool l.e.d, .int .i64 l.k, .int .i64 l.p]] w fun r w' => ∃ X : ByteArray, r = .returned (.string X) ∧ X.size = (lnB l).length ∧ Hid (X.data.toList = lnB l) ∧ Below w.heap.size w w' := by
  obtain ⟨⟨v, c, i, s, d⟩, k, p⟩ := l
  obtain ⟨⟨⟨h1, h2⟩, ⟨h3, h4⟩, ⟨h5, h6⟩, h7⟩, h8, h9⟩ := h
  obtain ⟨V, rfl⟩ : ∃ V : Nat, v = V := ⟨v.toNat, by dsimp only at *; omega⟩
  obtain ⟨I, rfl⟩ : ∃ I : Nat, i = I := ⟨i.toNat, by dsimp only at *; omega⟩
  dsimp only at *
  refine (line_x V I s d c k p w (by omega) (by omega) h8 h9 h7).mono ?_
  rintro r w' ⟨X, rfl, _, hX, hb⟩
  exact ⟨X, rfl, by rw [← hX.out, nm_size], hX, hb⟩
theorem lnC_len (l : Ln) : (lnC l).length = 7 := rfl
theorem row_ln {w : World} {g off : Nat} {l : List Ln} (h : RowAt w g off (l.flatMap lnC)) {A : World} (hA : A.heap[g]? = w.heap[g]?) (i : Nat) (hi : i < l.length) :
    A.cell? ⟨g, off + i * 7, none⟩ = some (.int .i64 l[i].e.v) ∧ A.cell? ⟨g, off + i * 7 + 1, none⟩ = some (.string l[i].e.c) ∧ A.cell? ⟨g, off + i * 7 + 2, none⟩ = some (.int .i64 l[i].e.i) ∧ A.cell? ⟨g, off + i * 7 + 3, none⟩ = some (.int .i64 l[i].e.s) ∧ A.cell? ⟨g, off + i * 7 + 4, none⟩ = some (.bool l[i].e.d) ∧ A.cell? ⟨g, off + i * 7 + 5, none⟩ = some (.int .i64 l[i].k) ∧ A.cell? ⟨g, off + i * 7 + 6, none⟩ = some (.int .i64 l[i].p) := by
  have hc : ∀ o, A.cell? ⟨g, o, none⟩ = w.cell? ⟨g, o, none⟩ := fun o => by simp [World.cell?, hA]
  have hj : ∀ j v, j < 7 → (lnC l[i])[j]? = some v → A.cell? ⟨g, off + i * 7 + j, none⟩ = some v := fun j v hj hv => by
    rw [hc, Nat.add_assoc]
    exact h _ _ (by rw [flat_at lnC 7 lnC_len l i j hi hj]; exact hv)
  exact ⟨hj 0 _ (by omega) rfl, hj 1 _ (by omega) rfl, hj 2 _ (by omega) rfl, hj 3 _ (by omega) rfl, hj 4 _ (by omega) rfl, hj 5 _ (by omega) rfl, hj 6 _ (by omega) rfl⟩
set_option maxRecDepth 100000 in
set_option maxHeartbeats 1000000 in
theorem packL_st (l : List Ln) (g off cap Bl Bf n : Nat) (K : Nat → Prop) (w : World)
    (hl : w.heap[Bl]? = some (.cells #[.slice (some ⟨g, off, none⟩) l.length cap] 129 (0, 0))) (hf : w.heap[Bf]? = some (.cells #[.func (.func 74) #[] #[]] 139 (0, 0)))
    (hr : RowAt w g off (l.flatMap lnC)) (hK' : K Bl ∧ K Bf ∧ K g) (hKc : ∀ k, K k → ∃ c t m, w.heap[k]? = some (.cells c t m)) (hn : l.length ≤ 2097152) (hcap : l.length ≤ cap) (hok : ∀ e ∈ l, OkL e) :
    SeqSt Fence.wide n Tryz.prog 99 #[Pt Bl, Pt Bf] (encP lnB g off 7 cap) (fun p x => p ++ [x] <+: pk lnB l) TrB (KpB K) (fun p => p = pk lnB l) (fun _ => True) none w := fun lp J Jx W hW hJ hJx hY h0 => by
  have hKl : ∀ k, K k → k < w.heap.size := fun k hk => by obtain ⟨c, t, m, h⟩ := hKc k hk; exact (Array.getElem?_eq_some_iff.1 h).1
  have P0 : PkI lnB l K w J (.slice none 0 0) 0 0 [] [] W :=
    { ia := rfl, il := Nat.zero_le _, eq := rfl, le := Nat.zero_le _, row := ⟨rfl, .inl ⟨rfl, rfl⟩⟩, j := h0, kept := fun k hk => hW.block k (hKl k hk), new := (fun k e => by cases e), size := hW.size }
  have hX := box_cell hl (P0.kept Bl hK'.1)
  have hF := box_cell hf (P0.kept Bf hK'.2.1)
  refine callsIn_of_wp Tryz.func99 rfl trivial ?_ rfl
  simp only [Tryz.ntmps99, List.size_toArray, List.length_cons, List.length_nil, Nat.reduceAdd, Nat.reduceSub, Array.replicate_succ, Array.replicate_zero, List.push_toArray, List.append_toArray, List.nil_append, List.cons_append]
  gi_wp2
  gi_loopw [4, 5, 11] (fun pv fv iv wr => ∃ (pre : List (Nat × List Ln)) (cur : List Ln) (a i : Nat), fv = .int .i64 a ∧ iv = .int .i64 i ∧ PkI lnB l K w J pv a i pre cur wr) (fun _ _ iv _ => l.length - (intOf iv).toNat)
  case atStart => exact ⟨[], [], 0, 0, rfl, rfl, P0⟩
  case round =>
    obtain ⟨pre, cur, a, i, rfl, rfl, hP⟩ := hrel
    have hX := box_cell hl (hP.kept Bl hK'.1)
    have hF := box_cell hf (hP.kept Bf hK'.2.1)
    have hil := hP.il
    have hbl : Bl < wr.heap.size := World.block_lt_of_cell? wr _ hX
    have hbf : Bf < wr.heap.size := World.block_lt_of_cell? wr _ hF
    by_cases hlt : i < l.length
    · obtain ⟨x0, x1, x2, x3, x4, x5, x6⟩ := row_ln hr (hP.kept g hK'.2.2) i hlt
      have hE := line_o l[i] (hok _ (List.getElem_mem hlt))
      obtain ⟨e, he⟩ : ∃ e, e = l[i] := ⟨_, rfl⟩
      rw [← he] at x0 x1 x2 x3 x4 x5 x6 hE
      have HE := Hid.mk he
      clear he
      have HP := Hid.mk hP
      have i1 : (i : Int) < (l.length : Int) := by omega
      clear hP P0
      gi_wp2_with fail
      refine ⟨trivial, fun h => (by cases h), (callsIn_wide.2 (hE _)).mono ?_⟩
      rintro r w2 ⟨X, rfl, hXs, HX, b2⟩
      have hb : Below wr.heap.size wr w2 := chain ((Below.refl _ wr).alloc (Nat.le_refl _) _) b2 (Nat.le_refl _)
      have hP2 := HP.out.below hb hKl hJ
      clear HP b2 x0 x1 x2 x3 x4 x5 x6 hE hX hF hbl hbf
      obtain ⟨pa, pc, hv, hpc⟩ := slice_form hP2.row
      have hX := box_cell hl (hP2.kept Bl hK'.1)
      have hle := hP2.le
      obtain ⟨N, hN⟩ : ∃ N, N = ln lnB cur := ⟨_, rfl⟩
      rw [← hN] at hv hle hpc
      have HN := Hid.mk hN
      clear hN
      have hXl : X.size ≤ 162 := by rw [hXs]; have := (lnB_len e).1; have := (hok e (HE.out ▸ List.getElem_mem hlt)).e.c; omega
      have HXs := Hid.mk hXs
      clear hXs
      rw [hv]
      have HV := Hid.mk hv
      clear hv
      have HP := Hid.mk hP2
      clear hP2
      by_cases hfl : 4096 < N + X.size
      · have hfl' : (4096 : Int) < (N : Int) + (X.size : Int) := by omega
        have hP3 := HP.out.below ((Below.refl _ w2).drew) hKl hJ
        have hia := hP3.ia
        have hai : (a : Int) ≤ (i : Int) := by omega
        have hic : (i : Int) ≤ (cap : Int) := by omega
        have hca : ¬ (cap = a) := by omega
        have heq := hP3.eq
        have hdr : l.drop i = e :: l.drop (i + 1) := by rw [HE.out]; exact List.drop_eq_getElem_cons hlt
        rw [hdr, pkA, if_pos (by rw [← HN.out, ← HXs.out]; exact hfl)] at heq
        obtain ⟨fn, tmps, assign, body, hy, hR⟩ := hY pre (a, cur) _ _ hP3.j ⟨pkA lnB (a + cur.length) [e] (l.drop (i + 1)), by rw [heq]; simp⟩
        simp only [encP] at hy
        have hcl : cur.length = i - a := by omega
        rw [hcl] at hy
        have HEQ := Hid.mk heq
        clear heq hdr hcl
        have hrow := hP3.row
        rw [HV.out, ← HN.out] at hrow
        obtain ⟨bs, hbs⟩ : ∃ bs, bs = cur.flatMap lnB := ⟨_, rfl⟩
        have hbl : bs.length = N := by rw [hbs, HN.out]; rfl
        rw [← hbs] at hrow hy
        have hconv : ∀ A : World, A.ownsRow 0 5 1 (.slice pa N pc) N (bs.map BV) → (convert 98 9 (.slice pa N pc)).run Tryz.prog A = .ok (.string ⟨bs.toArray⟩) A := fun A hA => conv_own bs (by rw [hbl]; exact hA)
        have HB := Hid.mk (And.intro hbs hbl)
        have hX3 : w2.drew.cell? ⟨Bl, 0, none⟩ = some (.slice (some ⟨g, off, none⟩) l.length cap) := hX
        clear hbs hbl hia
        gi_wp2_with fail
        refine region_held mixed 9 rfl (S := fun w' => w'.cell? ⟨Bl, 0, none⟩ = some (.slice (some ⟨g, off, none⟩) l.length cap) ∧ w'.ownsRow 0 5 1 (.slice pa N pc) N (bs.map BV)) ?_
        refine AnyS.take (i := 0) (v := ?v0) (by kernel_rfl) rfl (by kernel_rfl) (by kernel_rfl) (by kernel_rfl) (fun _ _ _ h => h) ⟨Or.inl ⟨by rfl, fun w' hS => ?y0⟩, fun _ => rfl⟩ ⟨hX3, hrow⟩ ?_
        case y0 => go_simp; rfl
        refine AnyS.take (i := 1) (v := ?v1) (by kernel_rfl) rfl (by kernel_rfl) (by kernel_rfl) (by kernel_rfl) (fun _ _ _ h => h) ⟨Or.inl ⟨by rfl, fun w' hS => ?y1⟩, fun _ => rfl⟩ ⟨hX3, hrow⟩ ?_
        case y1 => have g1 := hS.1; go_simp; rfl
        refine AnyS.take (i := 2) (v := ?v2) (by kernel_rfl) rfl (by kernel_rfl) (by kernel_rfl) (by kernel_rfl) (fun _ _ _ h => h) ⟨Or.inl ⟨by rfl, fun w' hS => ?y2⟩, fun _ => rfl⟩ ⟨hX3, hrow⟩ ?_
        case y2 => go_simp; rfl
        refine AnyS.take (i := 3) (v := ?v3) (by kernel_rfl) rfl (by kernel_rfl) (by kernel_rfl) (by kernel_rfl) (fun _ _ _ h => h) ⟨Or.inl ⟨by rfl, fun w' hS => ?y3⟩, fun _ => rfl⟩ ⟨hX3, hrow⟩ ?_
        case y3 => go_simp; rfl
        refine AnyS.take (i := 4) (v := ?v4) (by kernel_rfl) rfl (by kernel_rfl) (by kernel_rfl) (by kernel_rfl) (fun _ _ _ h => h) ⟨Or.inl ⟨by rfl, fun w' hS => ?y4⟩, fun _ => rfl⟩ ⟨hX3, hrow⟩ ?_
        case y4 => go_simp; rfl
        refine AnyS.take (i := 5) (v := ?v5) (by kernel_rfl) rfl (by kernel_rfl) (by kernel_rfl) (by kernel_rfl) (fun _ _ _ h => h) ⟨Or.inl ⟨by rfl, fun w' hS => ?y5⟩, fun _ => rfl⟩ ⟨hX3, hrow⟩ ?_
        case y5 => go_simp; rfl
        refine AnyS.take (i := 6) (v := .string ⟨bs.toArray⟩) (by kernel_rfl) rfl (by kernel_rfl) (by kernel_rfl) (by kernel_rfl) (fun _ _ _ h => h) ⟨Or.inl ⟨by rfl, fun w' hS => ?y6⟩, fun _ => rfl⟩ ⟨hX3, hrow⟩ ?_
        case y6 => have g1 := hconv w' hS.2; clear hS; go_simp
        refine AnyS.one (i := 7) (by kernel_rfl) (wpOpIn_step rfl (fun K hK => ?_))
        go_simp
        refine ⟨fun h => (by cases h), hR.mono ?_⟩
        rintro r W3 (⟨rfl, hJ3, hk3⟩ | ⟨rfl, hJ3, hk3⟩)
        · obtain ⟨row3, kept3⟩ := hP3.took hKc hk3
          have hz3 : w.heap.size ≤ W3.heap.size := Nat.le_trans hP3.size hk3.1
          have hX4 := box_cell hl (kept3 Bl hK'.1)
          rw [HV.out, ← HN.out, ← HB.out.1] at row3
          refine hK _ _ ⟨⟨hX4, row3⟩, ?_⟩
          clear hK K hX3 hrow hy hR hconv
          refine AnyS.take (i := 8) (v := ?v8) (by kernel_rfl) rfl (by kernel_rfl) (by kernel_rfl) (by kernel_rfl) (fun _ _ _ h => h) ⟨Or.inl ⟨by rfl, fun w' hS => ?y8⟩, fun _ => rfl⟩ ⟨hX4, row3⟩ ?_
          case y8 => go_simp; rfl
          refine AnyS.done (by kernel_rfl) ?_
          gi_wp2_with fail
          refine region_held mixed 5 rfl (S := fun _ => True) ?_
          refine AnyS.take (i := 0) (v := ?b0) (by kernel_rfl) rfl (by kernel_rfl) (by kernel_rfl) (by kernel_rfl) (fun _ _ _ h => h) ⟨Or.inl ⟨by rfl, fun w' hS => ?z0⟩, fun _ => rfl⟩ trivial ?_
          case z0 => go_simp; rfl
          refine AnyS.take (i := 1) (v := ?b1) (by kernel_rfl) rfl (by kernel_rfl) (by kernel_rfl) (by kernel_rfl) (fun _ _ _ h => h) ⟨Or.inl ⟨by rfl, fun w' hS => ?z1⟩, fun _ => rfl⟩ trivial ?_
          case z1 => go_simp; rfl
          refine AnyS.take (i := 2) (v := ?b2) (by kernel_rfl) rfl (by kernel_rfl) (by kernel_rfl) (by kernel_rfl) (fun _ _ _ h => h) ⟨Or.inl ⟨by rfl, fun w' hS => ?z2⟩, fun _ => rfl⟩ trivial ?_
          case z2 => go_simp; rfl
          refine AnyS.take (i := 3) (v := ?b3) (by kernel_rfl) rfl (by kernel_rfl) (by kernel_rfl) (by kernel_rfl) (fun _ _ _ h => h) ⟨Or.inl ⟨by rfl, fun w' hS => ?z3⟩, fun _ => rfl⟩ trivial ?_
          case z3 => go_simp; rfl
          refine AnyS.take (i := 4) (v := ?b4) (by kernel_rfl) rfl (by kernel_rfl) (by kernel_rfl) (by kernel_rfl) (fun _ _ _ h => h) ⟨Or.inl ⟨by rfl, fun w' hS => ?z4⟩, fun _ => rfl⟩ trivial ?_
          case z4 => go_simp; rfl
          refine AnyS.done (by kernel_rfl) ?_
          obtain ⟨qa, qc, hq, hqc, row0, hob⟩ := cut0 row3
          cases hq
          have row0' : ({ W3 with drawn := W3.drawn + 1 } : World).ownsRow 0 5 1 (.slice pa 0 pc) ([] : List UInt8).length (([] : List UInt8).map BV) := row_kept (F := fun _ => False) row0 (.below ((Below.refl _ W3).drew)) (fun _ _ e => e)
          obtain ⟨v', W4, hr4, ho4, s4, hloc4⟩ := append_str2 _ 98 _ _ row0' X (by simp; omega)
          gi_wp2_with (gi_at_builtin; refine wpListIn_append_eq rfl _ _ _ _ rfl _ _ _ _ rfl rfl hr4 ?_)
          refine ⟨⟨pre ++ [(a, cur)], [] ++ [l[i]], i, i + 1, rfl, ival (by omega), ?_⟩, by simp only [intOf]; omega⟩
          have hia := hP3.ia
          refine PkI.more (pv := .slice pa 0 pc) (B := { W3 with drawn := W3.drawn + 1 }) hlt (by simp) ?_ ?_ (fun k hk => ?_) (fun k hk => hP3.new k (by rw [HV.out, ← hob]; exact hk)) ?_ kept3 hz3 hKl hJ ?_ s4 hloc4
          · rw [HEQ.out, hia, HE.out]; simp
          · rw [← HE.out, ← HXs.out]; simp [ln]; omega
          · obtain ⟨c, hc⟩ := row_block row0' hk; exact ⟨_, _, _, hc⟩
          · refine hJ _ _ W3 _ _ ?_ (TrB.below (fun k hk => ?_) ((Below.refl _ W3).drew))
            · rw [HV.out, ← hob] at hJ3; exact hJ3
            · obtain ⟨c, hc⟩ := row_block row0 hk; exact ⟨_, _, _, hc⟩
          · rw [HX.out, HE.out] at ho4; exact ho4
        · obtain ⟨row3, kept3⟩ := hP3.took hKc hk3
          have hX4 := box_cell hl (kept3 Bl hK'.1)
          rw [HV.out, ← HN.out, ← HB.out.1] at row3
          refine hK _ _ ⟨⟨hX4, row3⟩, ?_⟩
          clear hK K hX3 hrow hy hR hconv
          refine AnyS.take (i := 8) (v := ?c8) (by kernel_rfl) rfl (by kernel_rfl) (by kernel_rfl) (by kernel_rfl) (fun _ _ _ h => h) ⟨Or.inl ⟨by rfl, fun w' hS => ?x8⟩, fun _ => rfl⟩ ⟨hX4, row3⟩ ?_
          case x8 => go_simp; rfl
          refine AnyS.done (by kernel_rfl) ?_
          gi_wp2_with fail
          simp only [Act.put, List.setIfInBounds_toArray, List.set_cons_zero, List.set_cons_succ]
          refine bodyPost_ret (results_none rfl _ _ _) rfl ?_
          exact ⟨⟨_, rfl⟩, .inr ⟨_, _, trivial, hJ3⟩⟩
      · have hfl' : (N : Int) + (X.size : Int) ≤ 4096 := by omega
        have hrow := HP.out.row
        rw [HV.out] at hrow
        obtain ⟨v', W4, hr4, ho4, s4, hloc4⟩ := append_str2 w2 98 _ (cur.flatMap lnB) hrow X (by have : (cur.flatMap lnB).length = N := HN.out.symm; omega)
        have HR := Hid.mk hrow
        clear hrow
        gi_wp2_with (gi_at_builtin; refine wpListIn_append_eq rfl _ _ _ _ rfl _ _ _ _ rfl rfl hr4 ?_)
        refine ⟨⟨pre, cur ++ [l[i]], a, i + 1, rfl, ival (by omega), ?_⟩, by simp only [intOf]; omega⟩
        have hP2 := HP.out
        have heq := hP2.eq
        have hdr : l.drop i = e :: l.drop (i + 1) := by rw [HE.out]; exact List.drop_eq_getElem_cons hlt
        rw [hdr, pkA, if_neg (by rw [← HN.out, ← HXs.out]; exact hfl), HE.out] at heq
        refine PkI.more (pv := u4) hlt hP2.ia heq ?_ hP2.cells hP2.new hP2.j hP2.kept hP2.size hKl hJ ?_ ?_ ?_
        · rw [← HE.out, ← HXs.out, ← HN.out]; omega
        · rw [HX.out, HE.out] at ho4; exact ho4
        · rw [HV.out]; exact s4
        · rw [HV.out]; exact hloc4
    · have e1 : i = l.length := by omega
      subst e1
      have heq := hP.eq
      rw [List.drop_length, pkA] at heq
      by_cases hcu : a < l.length
      · have hne : cur.isEmpty = false := by have := hP.ia; cases cur with | nil => simp at this; omega | cons _ _ => rfl
        rw [hne] at heq
        simp only [Bool.false_eq_true, if_false] at heq
        have hP3 := hP.below ((Below.refl _ wr).drew) hKl hJ
        have hia := hP3.ia
        obtain ⟨fn, tmps, assign, body, hy, hR⟩ := hY pre (a, cur) _ _ hP3.j ⟨[], by rw [heq]; simp⟩
        simp only [encP] at hy
        have hcl : cur.length = l.length - a := by omega
        rw [hcl] at hy
        have HEQ := Hid.mk heq
        clear heq hcl hP P0
        obtain ⟨pa, pc, hv, hpc⟩ := slice_form hP3.row
        obtain ⟨N, hN⟩ : ∃ N, N = ln lnB cur := ⟨_, rfl⟩
        rw [← hN] at hv hpc
        have HN := Hid.mk hN
        have hrow := hP3.row
        rw [hv, ← hN] at hrow
        obtain ⟨bs, hbs⟩ : ∃ bs, bs = cur.flatMap lnB := ⟨_, rfl⟩
        have hbl' : bs.length = N := by rw [hbs, HN.out]; rfl
        rw [← hbs] at hrow hy
        have hconv : ∀ A : World, A.ownsRow 0 5 1 (.slice pa N pc) N (bs.map BV) → (convert 98 9 (.slice pa N pc)).run Tryz.prog A = .ok (.string ⟨bs.toArray⟩) A := fun A hA => conv_own bs (by rw [hbl']; exact hA)
        rw [hv]
        have HV := Hid.mk hv
        have HB := Hid.mk (And.intro hbs hbl')
        have hX3 : wr.drew.cell? ⟨Bl, 0, none⟩ = some (.slice (some ⟨g, off, none⟩) l.length cap) := hX
        have hai : (a : Int) < (l.length : Int) := by omega
        have hai' : (a : Int) ≤ (l.length : Int) := by omega
        have hic : (l.length : Int) ≤ (cap : Int) := by omega
        have hca : ¬ (cap = a) := by omega
        clear hbs hbl' hia hv hN
        gi_wp2_with fail
        refine region_held mixed 7 rfl (S := fun w' => w'.cell? ⟨Bl, 0, none⟩ = some (.slice (some ⟨g, off, none⟩) l.length cap) ∧ w'.ownsRow 0 5 1 (.slice pa N pc) N (bs.map BV)) ?_
        refine AnyS.take (i := 0) (v := ?f0) (by kernel_rfl) rfl (by kernel_rfl) (by kernel_rfl) (by kernel_rfl) (fun _ _ _ h => h) ⟨Or.inl ⟨by rfl, fun w' hS => ?g0⟩, fun _ => rfl⟩ ⟨hX3, hrow⟩ ?_
        case g0 => go_simp; rfl
        refine AnyS.take (i := 1) (v := ?f1) (by kernel_rfl) rfl (by kernel_rfl) (by kernel_rfl) (by kernel_rfl) (fun _ _ _ h => h) ⟨Or.inl ⟨by rfl, fun w' hS => ?g1⟩, fun _ => rfl⟩ ⟨hX3, hrow⟩ ?_
        case g1 => have g1 := hS.1; go_simp; rfl
        refine AnyS.take (i := 2) (v := ?f2) (by kernel_rfl) rfl (by kernel_rfl) (by kernel_rfl) (by kernel_rfl) (fun _ _ _ h => h) ⟨Or.inl ⟨by rfl, fun w' hS => ?g2⟩, fun _ => rfl⟩ ⟨hX3, hrow⟩ ?_
        case g2 => go_simp; rfl
        refine AnyS.take (i := 3) (v := ?f3) (by kernel_rfl) rfl (by kernel_rfl) (by kernel_rfl) (by kernel_rfl) (fun _ _ _ h => h) ⟨Or.inl ⟨by rfl, fun w' hS => ?g3⟩, fun _ => rfl⟩ ⟨hX3, hrow⟩ ?_
        case g3 => go_simp; rfl
        refine AnyS.take (i := 4) (v := ?f4) (by kernel_rfl) rfl (by kernel_rfl) (by kernel_rfl) (by kernel_rfl) (fun _ _ _ h => h) ⟨Or.inl ⟨by rfl, fun w' hS => ?g4⟩, fun _ => rfl⟩ ⟨hX3, hrow⟩ ?_
        case g4 => go_simp; rfl
        refine AnyS.take (i := 5) (v := .string ⟨bs.toArray⟩) (by kernel_rfl) rfl (by kernel_rfl) (by kernel_rfl) (by kernel_rfl) (fun _ _ _ h => h) ⟨Or.inl ⟨by rfl, fun w' hS => ?g5⟩, fun _ => rfl⟩ ⟨hX3, hrow⟩ ?_
        case g5 => have g1 := hconv w' hS.2; clear hS; go_simp
        refine AnyS.one (i := 6) (by kernel_rfl) (wpOpIn_step rfl (fun K hK => ?_))
        go_simp
        refine ⟨fun h => (by cases h), hR.mono ?_⟩
        rintro r W3 (⟨rfl, hJ3, hk3⟩ | ⟨rfl, hJ3, hk3⟩)
        all_goals
          obtain ⟨row3, kept3⟩ := hP3.took hKc hk3
          have hX4 := box_cell hl (kept3 Bl hK'.1)
          rw [HV.out, ← HN.out, ← HB.out.1] at row3
          refine hK _ _ ⟨⟨hX4, row3⟩, AnyS.done (by kernel_rfl) ?_⟩
          clear hK K hX3 hrow hy hR hconv
          gi_wp2_with fail
          go_end0
        · exact ⟨⟨_, rfl⟩, .inl ⟨_, _, HEQ.out.symm, hJ3⟩⟩
        · exact ⟨⟨_, rfl⟩, .inr ⟨_, _, trivial, hJ3⟩⟩
      · have hne : cur.isEmpty = true := by have := hP.ia; cases cur with | nil => rfl | cons _ _ => simp at this; omega
        rw [hne] at heq
        simp only [if_true, List.append_nil] at heq
        have HEQ := Hid.mk heq
        clear heq
        have HP := Hid.mk hP
        clear hP
        have hcu' : ¬ (a : Int) < (l.length : Int) := by omega
        gi_wp2_with fail
        go_end0
        exact ⟨⟨_, rfl⟩, .inl ⟨u4.ownBlock, by rw [HEQ.out]; exact HP.out.j⟩⟩
end Go.Proofs.YtjdpolhjbkpnlaaGreatDoor
set_option linter.unusedVariables false
set_option linter.unusedSimpArgs false
namespace Go.Proofs.YtjdpolhjbkpnlaaGreatDoor
open Go.RowKit Go.Proofs.SealMath
/-- What a write to a builder leaves. -/
structure Wrote (w w' : World) (b : Nat) (v v' : Value) : Prop where
  stay : Stay (fun k => k = b ∨ v.ownBlock = some k) w w'
  loc : ∀ k, v'.ownBlock = some k → v.ownBlock = some k ∨ w.heap.size ≤ k
set_option maxHeartbeats 4000000 in
set_option maxRecDepth 100000 in
theorem add_any {b : Nat} {p v : Value} {l : List UInt8} (k : Nat) (s : ByteArray) (w : World) (ht : Tab w) (h : Bd w b p v l) (h1 : 1 ≤ k) (h2 : k ≤ 255) (h3 : s.size ≤ 65536) (hb : l.length + s.size + 14 ≤ 140737488355328) :
    Calls Tryz.prog 65 #[.int .i64 k, .string s, Pt b] w fun r w' => r = .returned (.tuple #[]) ∧ ∃ v', Bd w' b (Pt b) v' (l ++ frL k s.data.toList) ∧ Wrote w w' b v v' := by
  have hl := frL_len k s.data.toList
  rw [nm_size] at hl
  have HH := Hid.mk h
  clear h
  go_enter Tryz.func65, Tryz.ntmps65
  go_wp2_with fail
  refine (frame_ok k s w ht ht.pos h1 h2 h3).mono ?_
  rintro e w1 ⟨rfl, b1⟩
  have h := HH.out.kept (F := fun _ => False) (.below b1) (fun h => h) (fun _ _ h => h)
  have HE := Hid.mk (b1.size)
  go_wp2_with fail
  refine wstr_any ⟨(frL k s.data.toList).toArray⟩ w1 h (by show l.length + (frL k s.data.toList).toArray.size ≤ _; rw [List.size_toArray, hl]; omega) _ ?_
  intro v' w' hB hS hloc
  have HF := Hid.mk (show ∃ v', Bd w' b (Pt b) v' (l ++ frL k s.data.toList) ∧ Wrote w w' b v v' from
    ⟨v', hB, ⟨(Stay.below b1).trans hS, fun k hk => (hloc k hk).imp_right (Nat.le_trans HE.out)⟩⟩)
  clear hB hS hloc
  go_wp2
  go_end0
  exact ⟨rfl, HF.out⟩
theorem Bd.isB {w : World} {b B : Nat} {p v : Value} {l : List UInt8} (h : Bd w b p v l) (hb : B ≤ b) (hv : ∀ k, v.ownBlock = some k → B ≤ k) : Lib.IsBuilder 121 5 B b (Lib.byteCells l) w := by
  have key : Lib.BuilderAt 121 5 B b p (Lib.byteCells l) w := ⟨hb, v, h.cells, by
    have e2 : Lib.byteCells l = l.map BV := rfl
    rw [e2, List.length_map]
    obtain ⟨r1, r2⟩ := h.row
    refine ⟨r1, ?_⟩
    rcases r2 with r2 | ⟨g2, cap2, cur2, r2, r3, r4⟩
    · exact .inl r2
    · exact .inr ⟨g2, cap2, cur2, r2, hv g2 (by rw [r2]; rfl), r4⟩, fun hk => h.row_b _ hk rfl⟩
  rcases h.adr with rfl | rfl
  · exact .inl key
  · exact .inr key
theorem len_any {b : Nat} {p v : Value} {l : List UInt8} (w : World) (h : Bd w b p v l) : Calls Tryz.prog 72 #[Pt b] w fun r w' => r = .returned (.int .i64 l.length) ∧ w' = w := by
  refine (Tryz.Builder_Len 0 b _ w (h.isB (Nat.zero_le _) (fun _ _ => Nat.zero_le _))).mono ?_
  intro r w' hr
  have e : (Lib.byteCells l).length = l.length := by simp [Lib.byteCells]
  rw [e] at hr
  exact hr
end Go.Proofs.YtjdpolhjbkpnlaaGreatDoor
set_option linter.unusedVariables false
set_option linter.unusedSimpArgs false
namespace Go.Proofs.YtjdpolhjbkpnlaaGreatDoor
open Go.RowKit Go.Proofs.SealMath
theorem number_e (n : Nat) (w : World) (hn : n < 9223372036854775808) (L : List UInt8) (hL : L = pvL 9 n) :
    Calls Tryz.prog 75 #[.int .i64 n] w fun e w' => e = .returned (.string ⟨L.toArray⟩) ∧ Below w.heap.size w w' :=
  (number_x n w hn).mono fun e w' h => by
    obtain ⟨X, h1, _, h2, h3⟩ := h
    have : X = ⟨L.toArray⟩ := ba_ext (by rw [h2.out, hL])
    rw [← this]; exact ⟨h1, h3⟩
theorem six_fin {h : Hd} {n : Nat} {LA LB LC LD LE LF : List UInt8} (e : Hid (LA ++ (LB ++ (LC ++ (LD ++ (LE ++ LF)))) = hdB h n)) (w w' : World) (hb : Below w.heap.size w w') :
    ∃ X : ByteArray, Ending.returned (.string ((⟨LA.toArray⟩ : ByteArray) ++ ⟨LB.toArray⟩ ++ ⟨LC.toArray⟩ ++ ⟨LD.toArray⟩ ++ ⟨LE.toArray⟩ ++ ⟨LF.toArray⟩)) = .returned (.string X) ∧ X.size ≤ 60 ∧ Hid (X.data.toList = hdB h n) ∧ Below w.heap.size w w' := by
  have e1 : ((⟨LA.toArray⟩ : ByteArray) ++ ⟨LB.toArray⟩ ++ ⟨LC.toArray⟩ ++ ⟨LD.toArray⟩ ++ ⟨LE.toArray⟩ ++ ⟨LF.toArray⟩).data.toList = hdB h n := by rw [← e.out]; simp
  refine ⟨_, rfl, ?_, e1, hb⟩
  have := hdB_len h n
  rw [← e1, cl] at this
  exact this
set_option maxHeartbeats 8000000 in
set_option maxRecDepth 100000 in
theorem head_x (a b c d e f : Nat) (w : World) (ha : a < 9223372036854775808) (hb : b < 9223372036854775808) (hc : c < 9223372036854775808) (hd : d < 9223372036854775808) (he : e < 9223372036854775808) (hf : f < 9223372036854775808) (x : Int) :
    Calls Tryz.prog 68 #[.agg #[.int .i64 a, .int .i64 b, .int .i64 c, .int .i64 d, .int .i64 e, .int .i64 f]] w fun r w' => ∃ X : ByteArray, r = .returned (.string X) ∧ X.size ≤ 60 ∧ Hid (X.data.toList = hdB ⟨a, b, c, d, e, x⟩ f) ∧ Below w.heap.size w w' := by
  have hh : Hid (pvL 9 a ++ (pvL 9 b ++ (pvL 9 c ++ (pvL 9 d ++ (pvL 9 e ++ pvL 9 f)))) = hdB ⟨a, b, c, d, e, x⟩ f) := rfl
  have U0 := SAt.new w [.int .i64 a, .int .i64 b, .int .i64 c, .int .i64 d, .int .i64 e, .int .i64 f] 31
  have ba : Below w.heap.size w (w.alloc (.cells #[.int .i64 a, .int .i64 b, .int .i64 c, .int .i64 d, .int .i64 e, .int .i64 f] 31)) := (Below.refl _ w).alloc (Nat.le_refl _) _
  obtain ⟨w1, hw1⟩ : ∃ w1, w1 = w.alloc (.cells #[.int .i64 a, .int .i64 b, .int .i64 c, .int .i64 d, .int .i64 e, .int .i64 f] 31) := ⟨_, rfl⟩
  obtain ⟨LA, qa⟩ : ∃ L, L = pvL 9 a := ⟨_, rfl⟩
  have ka : LA.length ≤ 10 := by rw [qa]; exact (pvL_len 9 a).2
  have ca := fun W => number_e a W ha LA qa
  obtain ⟨LB, qb⟩ : ∃ L, L = pvL 9 b := ⟨_, rfl⟩
  have kb : LB.length ≤ 10 := by rw [qb]; exact (pvL_len 9 b).2
  have cb := fun W => number_e b W hb LB qb
  obtain ⟨LC, qc⟩ : ∃ L, L = pvL 9 c := ⟨_, rfl⟩
  have kc : LC.length ≤ 10 := by rw [qc]; exact (pvL_len 9 c).2
  have cc := fun W => number_e c W hc LC qc
  obtain ⟨LD, qd⟩ : ∃ L, L = pvL 9 d := ⟨_, rfl⟩
  have kd : LD.length ≤ 10 := by rw [qd]; exact (pvL_len 9 d).2
  have cd := fun W => number_e d W hd LD qd
  obtain ⟨LE, qe⟩ : ∃ L, L = pvL 9 e := ⟨_, rfl⟩
  have ke : LE.length ≤ 10 := by rw [qe]; exact (pvL_len 9 e).2
  have ce := fun W => number_e e W he LE qe
  obtain ⟨LF, qf⟩ : ∃ L, L = pvL 9 f := ⟨_, rfl⟩
  have kf : LF.length ≤ 10 := by rw [qf]; exact (pvL_len 9 f).2
  have cf := fun W => number_e f W hf LF qf
  rw [← qa, ← qb, ← qc, ← qd, ← qe, ← qf] at hh
  clear qa qb qc qd qe qf
  have z1 : ¬ (9223372036854775807 < LA.length + LB.length) := by omega
  have z2 : ¬ (9223372036854775807 < LA.length + LB.length + LC.length) := by omega
  have z3 : ¬ (9223372036854775807 < LA.length + LB.length + LC.length + LD.length) := by omega
  have z4 : ¬ (9223372036854775807 < LA.length + LB.length + LC.length + LD.length + LE.length) := by omega
  have z5 : ¬ (9223372036854775807 < LA.length + LB.length + LC.length + LD.length + LE.length + LF.length) := by omega
  clear ka kb kc kd ke kf ha hb hc hd he hf
  go_enter Tryz.func68, Tryz.ntmps68
  go_wp2
  rw [← hw1] at U0 ba
  rw [show w.alloc (.cells #[.int .i64 a, .int .i64 b, .int .i64 c, .int .i64 d, .int .i64 e, .int .i64 f] 31) = w1 from hw1.symm]
  clear hw1
  have q0 := U0 0 _ rfl
  have q1 := U0 1 _ rfl
  have q2 := U0 2 _ rfl
  have q3 := U0 3 _ rfl
  have q4 := U0 4 _ rfl
  have q5 := U0 5 _ rfl
  clear U0
  go_region_held (fun w' => Below w1.heap.size w1 w' ∧ w'.cell? ⟨w.heap.size, 0, none⟩ = some (.int .i64 a) ∧ w'.cell? ⟨w.heap.size, 1, none⟩ = some (.int .i64 b) ∧ w'.cell? ⟨w.heap.size, 2, none⟩ = some (.int .i64 c) ∧ w'.cell? ⟨w.heap.size, 3, none⟩ = some (.int .i64 d) ∧ w'.cell? ⟨w.heap.size, 4, none⟩ = some (.int .i64 e) ∧ w'.cell? ⟨w.heap.size, 5, none⟩ = some (.int .i64 f))
    ((refine (fun hb => ⟨hb, cell_lat hb q0, cell_lat hb q1, cell_lat hb q2, cell_lat hb q3, cell_lat hb q4, cell_lat hb q5⟩) ?_; first | exact bb | exact b_drew w1))
    (first
      | (go_at_call 75; refine (ca _).mono ?_; rintro e w2 ⟨rfl, b2⟩; clear ca; have bb : Below w1.heap.size w1 w2 := (by first | exact chain bb b2 (Nat.le_refl _) | exact below_d b2))
      | (go_at_call 75; refine (cb _).mono ?_; rintro e w2 ⟨rfl, b2⟩; clear cb; have bb : Below w1.heap.size w1 w2 := (by first | exact chain bb b2 (Nat.le_refl _) | exact below_d b2))
      | (go_at_call 75; refine (cc _).mono ?_; rintro e w2 ⟨rfl, b2⟩; clear cc; have bb : Below w1.heap.size w1 w2 := (by first | exact chain bb b2 (Nat.le_refl _) | exact below_d b2))
      | (go_at_call 75; refine (cd _).mono ?_; rintro e w2 ⟨rfl, b2⟩; clear cd; have bb : Below w1.heap.size w1 w2 := (by first | exact chain bb b2 (Nat.le_refl _) | exact below_d b2))
      | (go_at_call 75; refine (ce _).mono ?_; rintro e w2 ⟨rfl, b2⟩; clear ce; have bb : Below w1.heap.size w1 w2 := (by first | exact chain bb b2 (Nat.le_refl _) | exact below_d b2))
      | (go_at_call 75; refine (cf _).mono ?_; rintro e w2 ⟨rfl, b2⟩; clear cf; have bb : Below w1.heap.size w1 w2 := (by first | exact chain bb b2 (Nat.le_refl _) | exact below_d b2)))
  all_goals
    go_wp2
    go_ret
    exact six_fin hh _ _ (chain ba bb (Nat.le_refl _))
end Go.Proofs.YtjdpolhjbkpnlaaGreatDoor
