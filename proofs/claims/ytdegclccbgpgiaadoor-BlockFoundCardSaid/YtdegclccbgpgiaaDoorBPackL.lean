/-
  DERIVED. The iterator that parts a list of lines.
-/
import Derived.Test.YtdegclccbgpgiaaDoorBPack
import Derived.Test.YtdegclccbgpgiaaDoorBBytesL
set_option linter.unusedVariables false
set_option linter.unusedSimpArgs false
namespace Go.Proofs.YtdegclccbgpgiaaDoor
open Go.RowKit Go.Shelf Go.Proofs.SealMath
attribute [local go_sem] Oper.semAt_some
structure OkL (l : Ln) : Prop where
  e : Ok l.e
  k : l.k < 9223372036854775808
  p : l.p < 9223372036854775808
theorem line_o (l : Ln) (h : OkL l) (w : World) :
    Calls Tryd.prog 50 #[.agg #[.int .i64 l.e.v, .string l.e.c, .int .i64 l.e.i, .int .i64 l.e.s, .bool l.e.d, .int .i64 l.k, .int .i64 l.p]] w fun r w' => ∃ X : ByteArray, r = .returned (.string X) ∧ X.size = (lnB l).length ∧ Hid (X.data.toList = lnB l) ∧ Below w.heap.size w w' := by
  obtain ⟨⟨v, c, i, s, d⟩, k, p⟩ := l
  obtain ⟨⟨⟨h1, h2⟩, ⟨h3, h4⟩, ⟨h5, h6⟩, h7⟩, h8, h9⟩ := h
  obtain ⟨V, rfl⟩ : ∃ V : Nat, v = V := ⟨v.toNat, by dsimp only at *; omega⟩
  obtain ⟨I, rfl⟩ : ∃ I : Nat, i = I := ⟨i.toNat, by dsimp only at *; omega⟩
  dsimp only at *
  refine (line_x V I s d c k p w (by omega) (by omega) h8 h9 h7).mono ?_
  rintro r w' ⟨X, rfl, _, hX, hb⟩
  exact ⟨X, rfl, by rw [← hX.out, nm_size], hX, hb⟩
theorem lnC_len (l : Ln) : (lnC l).length = 7 := rfl
theorem row_ln {w : World} {g off : Nat} {l : List Ln} (h : RowAt w g off (l.flatMap lnC)) {A : World} (hA : A.heap[g]? = w.heap[g]?) (i : Nat) (hi : i < l.length) :
    A.cell? ⟨g, off + i * 7, none⟩ = some (.int .i64 l[i].e.v) ∧ A.cell? ⟨g, off + i * 7 + 1, none⟩ = some (.string l[i].e.c) ∧ A.cell? ⟨g, off + i * 7 + 2, none⟩ = some (.int .i64 l[i].e.i) ∧ A.cell? ⟨g, off + i * 7 + 3, none⟩ = some (.int .i64 l[i].e.s) ∧ A.cell? ⟨g, off + i * 7 + 4, none⟩ = some (.bool l[i].e.d) ∧ A.cell? ⟨g, off + i * 7 + 5, none⟩ = some (.int .i64 l[i].k) ∧ A.cell? ⟨g, off + i * 7 + 6, none⟩ = some (.int .i64 l[i].p) := by
  have hc : ∀ o, A.cell? ⟨g, o, none⟩ = w.cell? ⟨g, o, none⟩ := fun o => by simp [World.cell?, hA]
  have hj : ∀ j v, j < 7 → (lnC l[i])[j]? = some v → A.cell? ⟨g, off + i * 7 + j, none⟩ = some v := fun j v hj hv => by
    rw [hc, Nat.add_assoc]
    exact h _ _ (by rw [flat_at lnC 7 lnC_len l i j hi hj]; exact hv)
  exact ⟨hj 0 _ (by omega) rfl, hj 1 _ (by omega) rfl, hj 2 _ (by omega) rfl, hj 3 _ (by omega) rfl, hj 4 _ (by omega) rfl, hj 5 _ (by omega) rfl, hj 6 _ (by omega) rfl⟩
set_option maxRecDepth 100000 in
set_option maxHeartbeats 1000000 in
theorem packL_st (l : List Ln) (g off cap Bl Bf n : Nat) (K : Nat → Prop) (w : World)
    (hl : w.heap[Bl]? = some (.cells #[.slice (some ⟨g, off, none⟩) l.length cap] 96 (0, 0))) (hf : w.heap[Bf]? = some (.cells #[.func (.func 50) #[] #[]] 109 (0, 0)))
    (hr : RowAt w g off (l.flatMap lnC)) (hK' : K Bl ∧ K Bf ∧ K g) (hKc : ∀ k, K k → ∃ c t m, w.heap[k]? = some (.cells c t m)) (hn : l.length ≤ 2097152) (hcap : l.length ≤ cap) (hok : ∀ e ∈ l, OkL e) :
    SeqSt Fence.wide n Tryd.prog 84 #[Pt Bl, Pt Bf] (encP lnB g off 7 cap) (fun p x => p ++ [x] <+: pk lnB l) TrB (KpB K) (fun p => p = pk lnB l) (fun _ => True) none w := fun lp J Jx W hW hJ hJx hY h0 => by
  have hKl : ∀ k, K k → k < w.heap.size := fun k hk => by obtain ⟨c, t, m, h⟩ := hKc k hk; exact (Array.getElem?_eq_some_iff.1 h).1
  have P0 : PkI lnB l K w J (.slice none 0 0) 0 0 [] [] W :=
    { ia := rfl, il := Nat.zero_le _, eq := rfl, le := Nat.zero_le _, row := ⟨rfl, .inl ⟨rfl, rfl⟩⟩, j := h0, kept := fun k hk => hW.block k (hKl k hk), new := (fun k e => by cases e), size := hW.size }
  have hX := box_cell hl (P0.kept Bl hK'.1)
  have hF := box_cell hf (P0.kept Bf hK'.2.1)
  refine callsIn_of_wp Tryd.func84 rfl trivial ?_ rfl
  simp only [Tryd.ntmps84, List.size_toArray, List.length_cons, List.length_nil, Nat.reduceAdd, Nat.reduceSub, Array.replicate_succ, Array.replicate_zero, List.push_toArray, List.append_toArray, List.nil_append, List.cons_append]
  gi_wp2
  gi_loopw [4, 5, 11] (fun pv fv iv wr => ∃ (pre : List (Nat × List Ln)) (cur : List Ln) (a i : Nat), fv = .int .i64 a ∧ iv = .int .i64 i ∧ PkI lnB l K w J pv a i pre cur wr) (fun _ _ iv _ => l.length - (intOf iv).toNat)
  case atStart => exact ⟨[], [], 0, 0, rfl, rfl, P0⟩
  case round =>
    obtain ⟨pre, cur, a, i, rfl, rfl, hP⟩ := hrel
    have hX := box_cell hl (hP.kept Bl hK'.1)
    have hF := box_cell hf (hP.kept Bf hK'.2.1)
    have hil := hP.il
    have hbl : Bl < wr.heap.size := World.block_lt_of_cell? wr _ hX
    have hbf : Bf < wr.heap.size := World.block_lt_of_cell? wr _ hF
    by_cases hlt : i < l.length
    · obtain ⟨x0, x1, x2, x3, x4, x5, x6⟩ := row_ln hr (hP.kept g hK'.2.2) i hlt
      have hE := line_o l[i] (hok _ (List.getElem_mem hlt))
      obtain ⟨e, he⟩ : ∃ e, e = l[i] := ⟨_, rfl⟩
      rw [← he] at x0 x1 x2 x3 x4 x5 x6 hE
      have HE := Hid.mk he
      clear he
      have HP := Hid.mk hP
      have i1 : (i : Int) < (l.length : Int) := by omega
      clear hP P0
      gi_wp2_with fail
      refine ⟨trivial, fun h => (by cases h), (callsIn_wide.2 (hE _)).mono ?_⟩
      rintro r w2 ⟨X, rfl, hXs, HX, b2⟩
      have hb : Below wr.heap.size wr w2 := chain ((Below.refl _ wr).alloc (Nat.le_refl _) _) b2 (Nat.le_refl _)
      have hP2 := HP.out.below hb hKl hJ
      clear HP b2 x0 x1 x2 x3 x4 x5 x6 hE hX hF hbl hbf
      obtain ⟨pa, pc, hv, hpc⟩ := slice_form hP2.row
      have hX := box_cell hl (hP2.kept Bl hK'.1)
      have hle := hP2.le
      obtain ⟨N, hN⟩ : ∃ N, N = ln lnB cur := ⟨_, rfl⟩
      rw [← hN] at hv hle hpc
      have HN := Hid.mk hN
      clear hN
      have hXl : X.size ≤ 162 := by rw [hXs]; have := (lnB_len e).1; have := (hok e (HE.out ▸ List.getElem_mem hlt)).e.c; omega
      have HXs := Hid.mk hXs
      clear hXs
      rw [hv]
      have HV := Hid.mk hv
      clear hv
      have HP := Hid.mk hP2
      clear hP2
      by_cases hfl : 4096 < N + X.size
      · have hfl' : (4096 : Int) < (N : Int) + (X.size : Int) := by omega
        have hP3 := HP.out.below ((Below.refl _ w2).drew) hKl hJ
        have hia := hP3.ia
        have hai : (a : Int) ≤ (i : Int) := by omega
        have hic : (i : Int) ≤ (cap : Int) := by omega
        have hca : ¬ (cap = a) := by omega
        have heq := hP3.eq
        have hdr : l.drop i = e :: l.drop (i + 1) := by rw [HE.out]; exact List.drop_eq_getElem_cons hlt
        rw [hdr, pkA, if_pos (by rw [← HN.out, ← HXs.out]; exact hfl)] at heq
        obtain ⟨fn, tmps, assign, body, hy, hR⟩ := hY pre (a, cur) _ _ hP3.j ⟨pkA lnB (a + cur.length) [e] (l.drop (i + 1)), by rw [heq]; simp⟩
        simp only [encP] at hy
        have hcl : cur.length = i - a := by omega
        rw [hcl] at hy
        have HEQ := Hid.mk heq
        clear heq hdr hcl
        have hrow := hP3.row
        rw [HV.out, ← HN.out] at hrow
        obtain ⟨bs, hbs⟩ : ∃ bs, bs = cur.flatMap lnB := ⟨_, rfl⟩
        have hbl : bs.length = N := by rw [hbs, HN.out]; rfl
        rw [← hbs] at hrow hy
        have hconv : ∀ A : World, A.ownsRow 0 5 1 (.slice pa N pc) N (bs.map BV) → (convert 29 9 (.slice pa N pc)).run Tryd.prog A = .ok (.string ⟨bs.toArray⟩) A := fun A hA => conv_own bs (by rw [hbl]; exact hA)
        have HB := Hid.mk (And.intro hbs hbl)
        have hX3 : w2.drew.cell? ⟨Bl, 0, none⟩ = some (.slice (some ⟨g, off, none⟩) l.length cap) := hX
        clear hbs hbl hia
        gi_wp2_with fail
        refine region_held mixed 9 rfl (S := fun w' => w'.cell? ⟨Bl, 0, none⟩ = some (.slice (some ⟨g, off, none⟩) l.length cap) ∧ w'.ownsRow 0 5 1 (.slice pa N pc) N (bs.map BV)) ?_
        refine AnyS.take (i := 0) (v := ?v0) (by kernel_rfl) rfl (by kernel_rfl) (by kernel_rfl) (by kernel_rfl) (fun _ _ _ h => h) ⟨Or.inl ⟨by rfl, fun w' hS => ?y0⟩, fun _ => rfl⟩ ⟨hX3, hrow⟩ ?_
        case y0 => go_simp; rfl
        refine AnyS.take (i := 1) (v := ?v1) (by kernel_rfl) rfl (by kernel_rfl) (by kernel_rfl) (by kernel_rfl) (fun _ _ _ h => h) ⟨Or.inl ⟨by rfl, fun w' hS => ?y1⟩, fun _ => rfl⟩ ⟨hX3, hrow⟩ ?_
        case y1 => have g1 := hS.1; go_simp; rfl
        refine AnyS.take (i := 2) (v := ?v2) (by kernel_rfl) rfl (by kernel_rfl) (by kernel_rfl) (by kernel_rfl) (fun _ _ _ h => h) ⟨Or.inl ⟨by rfl, fun w' hS => ?y2⟩, fun _ => rfl⟩ ⟨hX3, hrow⟩ ?_
        case y2 => go_simp; rfl
        refine AnyS.take (i := 3) (v := ?v3) (by kernel_rfl) rfl (by kernel_rfl) (by kernel_rfl) (by kernel_rfl) (fun _ _ _ h => h) ⟨Or.inl ⟨by rfl, fun w' hS => ?y3⟩, fun _ => rfl⟩ ⟨hX3, hrow⟩ ?_
        case y3 => go_simp; rfl
        refine AnyS.take (i := 4) (v := ?v4) (by kernel_rfl) rfl (by kernel_rfl) (by kernel_rfl) (by kernel_rfl) (fun _ _ _ h => h) ⟨Or.inl ⟨by rfl, fun w' hS => ?y4⟩, fun _ => rfl⟩ ⟨hX3, hrow⟩ ?_
        case y4 => go_simp; rfl
        refine AnyS.take (i := 5) (v := ?v5) (by kernel_rfl) rfl (by kernel_rfl) (by kernel_rfl) (by kernel_rfl) (fun _ _ _ h => h) ⟨Or.inl ⟨by rfl, fun w' hS => ?y5⟩, fun _ => rfl⟩ ⟨hX3, hrow⟩ ?_
        case y5 => go_simp; rfl
        refine AnyS.take (i := 6) (v := .string ⟨bs.toArray⟩) (by kernel_rfl) rfl (by kernel_rfl) (by kernel_rfl) (by kernel_rfl) (fun _ _ _ h => h) ⟨Or.inl ⟨by rfl, fun w' hS => ?y6⟩, fun _ => rfl⟩ ⟨hX3, hrow⟩ ?_
        case y6 => have g1 := hconv w' hS.2; clear hS; go_simp
        refine AnyS.one (i := 7) (by kernel_rfl) (wpOpIn_step rfl (fun K hK => ?_))
        go_simp
        refine ⟨fun h => (by cases h), hR.mono ?_⟩
        rintro r W3 (⟨rfl, hJ3, hk3⟩ | ⟨rfl, hJ3, hk3⟩)
        · obtain ⟨row3, kept3⟩ := hP3.took hKc hk3
          have hz3 : w.heap.size ≤ W3.heap.size := Nat.le_trans hP3.size hk3.1
          have hX4 := box_cell hl (kept3 Bl hK'.1)
          rw [HV.out, ← HN.out, ← HB.out.1] at row3
          refine hK _ _ ⟨⟨hX4, row3⟩, ?_⟩
          clear hK K hX3 hrow hy hR hconv
          refine AnyS.take (i := 8) (v := ?v8) (by kernel_rfl) rfl (by kernel_rfl) (by kernel_rfl) (by kernel_rfl) (fun _ _ _ h => h) ⟨Or.inl ⟨by rfl, fun w' hS => ?y8⟩, fun _ => rfl⟩ ⟨hX4, row3⟩ ?_
          case y8 => go_simp; rfl
          refine AnyS.done (by kernel_rfl) ?_
          gi_wp2_with fail
          refine region_held mixed 5 rfl (S := fun _ => True) ?_
          refine AnyS.take (i := 0) (v := ?b0) (by kernel_rfl) rfl (by kernel_rfl) (by kernel_rfl) (by kernel_rfl) (fun _ _ _ h => h) ⟨Or.inl ⟨by rfl, fun w' hS => ?z0⟩, fun _ => rfl⟩ trivial ?_
          case z0 => go_simp; rfl
          refine AnyS.take (i := 1) (v := ?b1) (by kernel_rfl) rfl (by kernel_rfl) (by kernel_rfl) (by kernel_rfl) (fun _ _ _ h => h) ⟨Or.inl ⟨by rfl, fun w' hS => ?z1⟩, fun _ => rfl⟩ trivial ?_
          case z1 => go_simp; rfl
          refine AnyS.take (i := 2) (v := ?b2) (by kernel_rfl) rfl (by kernel_rfl) (by kernel_rfl) (by kernel_rfl) (fun _ _ _ h => h) ⟨Or.inl ⟨by rfl, fun w' hS => ?z2⟩, fun _ => rfl⟩ trivial ?_
          case z2 => go_simp; rfl
          refine AnyS.take (i := 3) (v := ?b3) (by kernel_rfl) rfl (by kernel_rfl) (by kernel_rfl) (by kernel_rfl) (fun _ _ _ h => h) ⟨Or.inl ⟨by rfl, fun w' hS => ?z3⟩, fun _ => rfl⟩ trivial ?_
          case z3 => go_simp; rfl
          refine AnyS.take (i := 4) (v := ?b4) (by kernel_rfl) rfl (by kernel_rfl) (by kernel_rfl) (by kernel_rfl) (fun _ _ _ h => h) ⟨Or.inl ⟨by rfl, fun w' hS => ?z4⟩, fun _ => rfl⟩ trivial ?_
          case z4 => go_simp; rfl
          refine AnyS.done (by kernel_rfl) ?_
          obtain ⟨qa, qc, hq, hqc, row0, hob⟩ := cut0 row3
          cases hq
          have row0' : ({ W3 with drawn := W3.drawn + 1 } : World).ownsRow 0 5 1 (.slice pa 0 pc) ([] : List UInt8).length (([] : List UInt8).map BV) := row_kept (F := fun _ => False) row0 (.below ((Below.refl _ W3).drew)) (fun _ _ e => e)
          obtain ⟨v', W4, hr4, ho4, s4, hloc4⟩ := append_str2 _ 29 _ _ row0' X (by simp; omega)
          gi_wp2_with (gi_at_builtin; refine wpListIn_append_eq rfl _ _ _ _ rfl _ _ _ _ rfl rfl hr4 ?_)
          refine ⟨⟨pre ++ [(a, cur)], [] ++ [l[i]], i, i + 1, rfl, ival (by omega), ?_⟩, by simp only [intOf]; omega⟩
          have hia := hP3.ia
          refine PkI.more (pv := .slice pa 0 pc) (B := { W3 with drawn := W3.drawn + 1 }) hlt (by simp) ?_ ?_ (fun k hk => ?_) (fun k hk => hP3.new k (by rw [HV.out, ← hob]; exact hk)) ?_ kept3 hz3 hKl hJ ?_ s4 hloc4
          · rw [HEQ.out, hia, HE.out]; simp
          · rw [← HE.out, ← HXs.out]; simp [ln]; omega
          · obtain ⟨c, hc⟩ := row_block row0' hk; exact ⟨_, _, _, hc⟩
          · refine hJ _ _ W3 _ _ ?_ (TrB.below (fun k hk => ?_) ((Below.refl _ W3).drew))
            · rw [HV.out, ← hob] at hJ3; exact hJ3
            · obtain ⟨c, hc⟩ := row_block row0 hk; exact ⟨_, _, _, hc⟩
          · rw [HX.out, HE.out] at ho4; exact ho4
        · obtain ⟨row3, kept3⟩ := hP3.took hKc hk3
          have hX4 := box_cell hl (kept3 Bl hK'.1)
          rw [HV.out, ← HN.out, ← HB.out.1] at row3
          refine hK _ _ ⟨⟨hX4, row3⟩, ?_⟩
          clear hK K hX3 hrow hy hR hconv
          refine AnyS.take (i := 8) (v := ?c8) (by kernel_rfl) rfl (by kernel_rfl) (by kernel_rfl) (by kernel_rfl) (fun _ _ _ h => h) ⟨Or.inl ⟨by rfl, fun w' hS => ?x8⟩, fun _ => rfl⟩ ⟨hX4, row3⟩ ?_
          case x8 => go_simp; rfl
          refine AnyS.done (by kernel_rfl) ?_
          gi_wp2_with fail
          simp only [Act.put, List.setIfInBounds_toArray, List.set_cons_zero, List.set_cons_succ]
          refine bodyPost_ret (results_none rfl _ _ _) rfl ?_
          exact ⟨⟨_, rfl⟩, .inr ⟨_, _, trivial, hJ3⟩⟩
      · have hfl' : (N : Int) + (X.size : Int) ≤ 4096 := by omega
        have hrow := HP.out.row
        rw [HV.out] at hrow
        obtain ⟨v', W4, hr4, ho4, s4, hloc4⟩ := append_str2 w2 29 _ (cur.flatMap lnB) hrow X (by have : (cur.flatMap lnB).length = N := HN.out.symm; omega)
        have HR := Hid.mk hrow
        clear hrow
        gi_wp2_with (gi_at_builtin; refine wpListIn_append_eq rfl _ _ _ _ rfl _ _ _ _ rfl rfl hr4 ?_)
        refine ⟨⟨pre, cur ++ [l[i]], a, i + 1, rfl, ival (by omega), ?_⟩, by simp only [intOf]; omega⟩
        have hP2 := HP.out
        have heq := hP2.eq
        have hdr : l.drop i = e :: l.drop (i + 1) := by rw [HE.out]; exact List.drop_eq_getElem_cons hlt
        rw [hdr, pkA, if_neg (by rw [← HN.out, ← HXs.out]; exact hfl), HE.out] at heq
        refine PkI.more (pv := u4) hlt hP2.ia heq ?_ hP2.cells hP2.new hP2.j hP2.kept hP2.size hKl hJ ?_ ?_ ?_
        · rw [← HE.out, ← HXs.out, ← HN.out]; omega
        · rw [HX.out, HE.out] at ho4; exact ho4
        · rw [HV.out]; exact s4
        · rw [HV.out]; exact hloc4
    · have e1 : i = l.length := by omega
      subst e1
      have heq := hP.eq
      rw [List.drop_length, pkA] at heq
      by_cases hcu : a < l.length
      · have hne : cur.isEmpty = false := by have := hP.ia; cases cur with | nil => simp at this; omega | cons _ _ => rfl
        rw [hne] at heq
        simp only [Bool.false_eq_true, if_false] at heq
        have hP3 := hP.below ((Below.refl _ wr).drew) hKl hJ
        have hia := hP3.ia
        obtain ⟨fn, tmps, assign, body, hy, hR⟩ := hY pre (a, cur) _ _ hP3.j ⟨[], by rw [heq]; simp⟩
        simp only [encP] at hy
        have hcl : cur.length = l.length - a := by omega
        rw [hcl] at hy
        have HEQ := Hid.mk heq
        clear heq hcl hP P0
        obtain ⟨pa, pc, hv, hpc⟩ := slice_form hP3.row
        obtain ⟨N, hN⟩ : ∃ N, N = ln lnB cur := ⟨_, rfl⟩
        rw [← hN] at hv hpc
        have HN := Hid.mk hN
        have hrow := hP3.row
        rw [hv, ← hN] at hrow
        obtain ⟨bs, hbs⟩ : ∃ bs, bs = cur.flatMap lnB := ⟨_, rfl⟩
        have hbl' : bs.length = N := by rw [hbs, HN.out]; rfl
        rw [← hbs] at hrow hy
        have hconv : ∀ A : World, A.ownsRow 0 5 1 (.slice pa N pc) N (bs.map BV) → (convert 29 9 (.slice pa N pc)).run Tryd.prog A = .ok (.string ⟨bs.toArray⟩) A := fun A hA => conv_own bs (by rw [hbl']; exact hA)
        rw [hv]
        have HV := Hid.mk hv
        have HB := Hid.mk (And.intro hbs hbl')
        have hX3 : wr.drew.cell? ⟨Bl, 0, none⟩ = some (.slice (some ⟨g, off, none⟩) l.length cap) := hX
        have hai : (a : Int) < (l.length : Int) := by omega
        have hai' : (a : Int) ≤ (l.length : Int) := by omega
        have hic : (l.length : Int) ≤ (cap : Int) := by omega
        have hca : ¬ (cap = a) := by omega
        clear hbs hbl' hia hv hN
        gi_wp2_with fail
        refine region_held mixed 7 rfl (S := fun w' => w'.cell? ⟨Bl, 0, none⟩ = some (.slice (some ⟨g, off, none⟩) l.length cap) ∧ w'.ownsRow 0 5 1 (.slice pa N pc) N (bs.map BV)) ?_
        refine AnyS.take (i := 0) (v := ?f0) (by kernel_rfl) rfl (by kernel_rfl) (by kernel_rfl) (by kernel_rfl) (fun _ _ _ h => h) ⟨Or.inl ⟨by rfl, fun w' hS => ?g0⟩, fun _ => rfl⟩ ⟨hX3, hrow⟩ ?_
        case g0 => go_simp; rfl
        refine AnyS.take (i := 1) (v := ?f1) (by kernel_rfl) rfl (by kernel_rfl) (by kernel_rfl) (by kernel_rfl) (fun _ _ _ h => h) ⟨Or.inl ⟨by rfl, fun w' hS => ?g1⟩, fun _ => rfl⟩ ⟨hX3, hrow⟩ ?_
        case g1 => have g1 := hS.1; go_simp; rfl
        refine AnyS.take (i := 2) (v := ?f2) (by kernel_rfl) rfl (by kernel_rfl) (by kernel_rfl) (by kernel_rfl) (fun _ _ _ h => h) ⟨Or.inl ⟨by rfl, fun w' hS => ?g2⟩, fun _ => rfl⟩ ⟨hX3, hrow⟩ ?_
        case g2 => go_simp; rfl
        refine AnyS.take (i := 3) (v := ?f3) (by kernel_rfl) rfl (by kernel_rfl) (by kernel_rfl) (by kernel_rfl) (fun _ _ _ h => h) ⟨Or.inl ⟨by rfl, fun w' hS => ?g3⟩, fun _ => rfl⟩ ⟨hX3, hrow⟩ ?_
        case g3 => go_simp; rfl
        refine AnyS.take (i := 4) (v := ?f4) (by kernel_rfl) rfl (by kernel_rfl) (by kernel_rfl) (by kernel_rfl) (fun _ _ _ h => h) ⟨Or.inl ⟨by rfl, fun w' hS => ?g4⟩, fun _ => rfl⟩ ⟨hX3, hrow⟩ ?_
        case g4 => go_simp; rfl
        refine AnyS.take (i := 5) (v := .string ⟨bs.toArray⟩) (by kernel_rfl) rfl (by kernel_rfl) (by kernel_rfl) (by kernel_rfl) (fun _ _ _ h => h) ⟨Or.inl ⟨by rfl, fun w' hS => ?g5⟩, fun _ => rfl⟩ ⟨hX3, hrow⟩ ?_
        case g5 => have g1 := hconv w' hS.2; clear hS; go_simp
        refine AnyS.one (i := 6) (by kernel_rfl) (wpOpIn_step rfl (fun K hK => ?_))
        go_simp
        refine ⟨fun h => (by cases h), hR.mono ?_⟩
        rintro r W3 (⟨rfl, hJ3, hk3⟩ | ⟨rfl, hJ3, hk3⟩)
        all_goals
          obtain ⟨row3, kept3⟩ := hP3.took hKc hk3
          have hX4 := box_cell hl (kept3 Bl hK'.1)
          rw [HV.out, ← HN.out, ← HB.out.1] at row3
          refine hK _ _ ⟨⟨hX4, row3⟩, AnyS.done (by kernel_rfl) ?_⟩
          clear hK K hX3 hrow hy hR hconv
          gi_wp2_with fail
          go_end0
        · exact ⟨⟨_, rfl⟩, .inl ⟨_, _, HEQ.out.symm, hJ3⟩⟩
        · exact ⟨⟨_, rfl⟩, .inr ⟨_, _, trivial, hJ3⟩⟩
      · have hne : cur.isEmpty = true := by have := hP.ia; cases cur with | nil => rfl | cons _ _ => simp at this; omega
        rw [hne] at heq
        simp only [if_true, List.append_nil] at heq
        have HEQ := Hid.mk heq
        clear heq
        have HP := Hid.mk hP
        clear hP
        have hcu' : ¬ (a : Int) < (l.length : Int) := by omega
        gi_wp2_with fail
        go_end0
        exact ⟨⟨_, rfl⟩, .inl ⟨u4.ownBlock, by rw [HEQ.out]; exact HP.out.j⟩⟩
end Go.Proofs.YtdegclccbgpgiaaDoor
