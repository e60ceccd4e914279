/-
  DERIVED. The law's joined.
-/
import Derived.Test.YtfjbabiobobboaaVRJoin
set_option linter.unusedVariables false
set_option linter.unusedSimpArgs false
namespace Go.Proofs.Ytfjbabiobobboaa
open Go.RowKit Go.Proofs.BitMath
/-- The list of numbers of a round. -/
def ndL (Z : List Int) (i : Nat) : List Int := if i = 1 then Z.reverse else Z
theorem ndL_len (Z : List Int) (i : Nat) : (ndL Z i).length = Z.length := by unfold ndL; split <;> simp
def FJ (w : World) (g n : Nat) (W : World) (Y : List Int) : Prop := Y.length = n + 64 ∧ EI.Row W (.slice (some ⟨g, 0, none⟩) (n + 64) (n + 64)) Y ∧ Below w.heap.size w W ∧ w.heap.size ≤ g
def JI (w : World) (g n : Nat) (u : Value) (wr : World) : Prop := ∃ (i : Nat) (Y : List Int), u = .int .i64 i ∧ i ≤ 3 ∧ Hid (FJ w g n wr Y)
def JJ (w w4 : World) (g n : Nat) (L : List Int) (un u : Value) (wr : World) : Prop := ∃ (j : Nat) (a : Option Addr) (c : Nat) (Y : List Int), un = .slice a j c ∧ u = .int .i64 j ∧ j ≤ n ∧ Hid (FJ w g n wr Y ∧ Y.take j = L.take j ∧ EI.Row wr (.slice a j c) (L.take j) ∧ (∀ k, (Value.slice a j c).ownBlock = some k → w4.heap.size ≤ k) ∧ w4.heap.size ≤ wr.heap.size)
def JM (w : World) (g n : Nat) (L : List Int) (nv : Value) (u : Value) (wr : World) : Prop := ∃ (j : Nat) (Y : List Int), u = .int .i64 ((n + j : Nat) : Int) ∧ j ≤ 64 ∧ Hid (FJ w g n wr Y ∧ Y.take (n + j) = L ++ List.replicate j (-7) ∧ EI.Row wr nv L)
def JC (w : World) (g n : Nat) (Y : List Int) (u : Value) (wr : World) : Prop := ∃ j : Nat, u = .int .i64 ((n + j : Nat) : Int) ∧ j ≤ 64 ∧ Hid (FJ w g n wr Y)
theorem FJ.lat {w : World} {g n : Nat} {W W' : World} {Y : List Int} (h : FJ w g n W Y) (b : Below W.heap.size W W') : FJ w g n W' Y := ⟨h.1, El.Row.below h.2.1 b, h.2.2.1.trans (b.mono h.2.2.1.size), h.2.2.2⟩
theorem FJ.cell {w : World} {g n : Nat} {W : World} {Y : List Int} (h : FJ w g n W Y) (i : Nat) (hi : i < Y.length) : W.cell? ⟨g, i, none⟩ = some (.int .i64 Y[i]) ∧ W.frozen? ⟨g, i, none⟩ = false := by
  obtain ⟨g', c, e, h1, h2⟩ := intRow h.2.1 i hi
  simp only [Value.slice.injEq, Option.some.injEq, Addr.mk.injEq] at e
  obtain ⟨⟨rfl, -, -⟩, -, -⟩ := e
  exact ⟨h1, h2 i⟩
theorem FJ.set {w : World} {g n : Nat} {W : World} {Y : List Int} (h : FJ w g n W Y) (i : Nat) (hi : i < Y.length) (x : Int) : FJ w g n (W.setCell ⟨g, i, none⟩ (.int .i64 x)) (Y.set i x) :=
  ⟨by rw [List.length_set]; exact h.1, intSet h.2.1 h.1.symm i hi x, h.2.2.1.setCell (p := ⟨g, i, none⟩) h.2.2.2 _, h.2.2.2⟩
theorem take_set_next (Y : List Int) (j : Nat) (x : Int) (h : j < Y.length) : (Y.set j x).take (j + 1) = Y.take j ++ [x] := by
  rw [List.take_succ_eq_append_getElem (by rw [List.length_set]; exact h), List.take_set_of_le (Nat.le_refl _), List.getElem_set_self]
theorem madeI (n : Nat) : (madeCells (Value.int .i64 0).cells (n * 1)).toList = (List.replicate n (0 : Int)).flatMap EI.f := by
  rw [Nat.mul_one]
  show (madeCells #[Value.int .i64 0] n).toList = _
  rw [toList_madeCells_one]
  induction n with
  | zero => rfl
  | succ n ih => rw [List.replicate_succ, List.replicate_succ, List.flatMap_cons, ← ih]; rfl
theorem info3 : (Try.prog.info? 3).map (fun i => (i.zero, i.size, i.bytes)) = some (some (.int .i64 0), 1, 8) := by kernel_rfl
theorem nd_at {Z : List Int} {i j : Nat} (hj : j < Z.length) : (ndL Z i)[j]'(by rw [ndL_len]; exact hj) = if i = 1 then Z[Z.length - 1 - j]'(by omega) else Z[j] := by
  unfold ndL
  by_cases h : i = 1
  · simp [h]
  · simp [h]
set_option maxHeartbeats 4000000 in
set_option maxRecDepth 100000 in
theorem joined_any (x m : Int) (Z : List Int) (hZ : ∀ z ∈ Z, -9223372036854775808 ≤ z ∧ z ≤ 9223372036854775807) (hZl : Z.length ≤ 17592186044416) (la : Option Addr) (ca : Nat) (w : World) (ha : EI.At w la Z) : Calls Try.prog 6 #[.int .i64 x, .int .i64 m, .slice la Z.length ca] w fun e w' => e = .returned (.bool true) ∧ Below w.heap.size w w' := by
  obtain ⟨i0, hi0, hz0, hz1, hz2⟩ := info_parts info3
  obtain ⟨n, hn⟩ : ∃ n, n = Z.length := ⟨_, rfl⟩
  have hb8 : i0.bytes * (n + 64) ≤ 281474976710656 := by rw [hz2]; omega
  have hb9 : n + 64 ≤ maxLen := by unfold maxLen; omega
  have HO := Hid.mk (And.intro hZ (And.intro ha hn))
  rw [← hn] at hZl ⊢
  have hw64 : IntKind.i64.wrap ((n : Int) + 64) = (n : Int) + 64 := by rw [IntKind.wrap_i64]; omega
  have HL : Hid ((n : Int) + 64 = ((n + 64 : Nat) : Int)) := by show (n : Int) + 64 = ((n + 64 : Nat) : Int); omega
  have HBB := Hid.mk (And.intro hb8 hb9)
  clear hZ ha hn hb8 hb9
  go_enter Try.func6, Try.ntmps6
  go_wp2_with (refine wpList_make_full (P := Try.prog) _ rfl _ _ _ rfl 0 3 i0 _ 1 Try.underlying22 hi0 hz0 hz1 .i64 .i64 _ _ (n + 64) rfl rfl HL.out HL.out HBB.out.1 HBB.out.2 (Nat.zero_le _) ?_; rintro w2 ho2 hg2)
  rw [madeI] at ho2
  have b2 : Below w.heap.size w w2 := ⟨hg2.os, hg2.tape, hg2.output, hg2.size, fun k hk => hg2.block k hk (by simp)⟩
  have F0 : Hid (JI w w.heap.size n (.int .i64 ((0 : Nat) : Int)) w2) := ⟨0, List.replicate (n + 64) 0, rfl, by omega, by simp, by
    show w2.ownsRow 0 3 1 _ (List.replicate (n + 64) (0 : Int)).length _
    rw [List.length_replicate]; exact ho2, b2, Nat.le_refl _⟩
  obtain ⟨G, hG⟩ : ∃ G, G = w.heap.size := ⟨_, rfl⟩
  rw [← hG] at F0 ⊢
  have HGw := Hid.mk hG
  clear ho2 hg2 b2 hz0 hz1 hz2 hi0 HBB HL hG
  go_loopw [9] (fun u wr => JI w G n u wr) (fun u _ => 3 - (intOf u).toNat)
  case atStart => exact F0.out
  case round =>
    clear F0
    obtain ⟨i, Y, rfl, hi, HR⟩ := hrel
    obtain ⟨w4, rfl⟩ : ∃ w4, w4 = wr := ⟨_, rfl⟩
    by_cases hlt : i < 3
    · have i1 : (i : Int) < 3 := by omega
      have hwi : IntKind.i64.wrap ((i : Int) + 1) = ((i + 1 : Nat) : Int) := by rw [IntKind.wrap_i64]; omega
      obtain ⟨L, hL⟩ : ∃ L, L = ndL Z i := ⟨_, rfl⟩
      have hLn : L.length = n := by rw [hL, ndL_len]; exact HO.out.2.2.symm
      have HLL := Hid.mk (And.intro hL hLn)
      have hLb : ∀ z ∈ L, -9223372036854775808 ≤ z ∧ z ≤ 9223372036854775807 := fun z hz => HO.out.1 z (by
        rw [hL] at hz; unfold ndL at hz
        split at hz
        · exact List.mem_reverse.1 hz
        · exact hz)
      have HLB := Hid.mk hLb
      have J0 : Hid (JJ w w4 G n L (.slice none 0 0) (.int .i64 ((0 : Nat) : Int)) w4) := ⟨0, none, 0, Y, rfl, rfl, Nat.zero_le _, HR.out, by simp, El.Row.nil _ _, fun k hk => (by cases hk), Nat.le_refl _⟩
      clear hL hLn hLb
      go_wp2
      go_loopw [10, 11] (fun un u wr => JJ w w4 G n L un u wr) (fun _ u _ => n - (intOf u).toNat)
      case atStart => exact J0.out
      case round =>
        clear J0
        obtain ⟨j, a, c, Y2, rfl, rfl, hj, HJ⟩ := hrel
        by_cases hjn : j < n
        · have j1 : (j : Int) < (n : Int) := by omega
          have j2 : (0 : Int) ≤ (j : Int) := by omega
          have hwj : IntKind.i64.wrap ((j : Int) + 1) = ((j + 1 : Nat) : Int) := by rw [IntKind.wrap_i64]; omega
          have hZn : Z.length = n := HO.out.2.2.symm
          have bw : Below w.heap.size w wr := HJ.out.1.2.2.1
          have hjL : j < L.length := by rw [HLL.out.2]; exact hjn
          have hj64 : (j : Int) < ((n + 64 : Nat) : Int) := by omega
          obtain ⟨v, hv⟩ : ∃ v, v = L[j] := ⟨_, rfl⟩
          obtain ⟨ga, oa, e1, Q0⟩ := intAt (HO.out.2.1.below bw) j (by omega)
          subst e1
          obtain ⟨ga', oa', e1', Q1⟩ := intAt (HO.out.2.1.below bw) (n - 1 - j) (by omega)
          simp only [Option.some.injEq, Addr.mk.injEq] at e1'
          obtain ⟨rfl, rfl, -⟩ := e1'
          obtain ⟨v0, q0⟩ : ∃ v0, wr.cell? ⟨ga, oa + j, none⟩ = some (.int .i64 v0) ∧ (i ≠ 1 → v0 = v) := ⟨_, Q0, fun hi1 => by
            rw [hv]
            have : L[j] = (ndL Z i)[j]'(by rw [ndL_len]; omega) := by simp only [HLL.out.1]
            rw [this, nd_at (by omega), if_neg hi1]⟩
          obtain ⟨v1, q1⟩ : ∃ v1, wr.cell? ⟨ga, oa + (n - 1 - j), none⟩ = some (.int .i64 v1) ∧ (i = 1 → v1 = v) := ⟨_, Q1, fun hi1 => by
            rw [hv]
            have : L[j] = (ndL Z i)[j]'(by rw [ndL_len]; omega) := by simp only [HLL.out.1]
            rw [this, nd_at (by omega), if_pos hi1]
            congr 1; omega⟩
          obtain ⟨q0, hv0⟩ := q0
          obtain ⟨q1, hv1⟩ := q1
          have hl1 : (L.take j).length = j := by rw [List.length_take]; omega
          obtain ⟨n', W', hap, ho, st, hloc⟩ := El.app1 okI wr (L.take j) (.slice a j c) HJ.out.2.2.1 v (by rw [hl1]; show (j + 1) * 8 ≤ _; omega) (by omega)
          have htk : L.take j ++ [v] = L.take (j + 1) := by rw [List.take_succ_eq_append_getElem hjL, ← hv]
          rw [htk] at ho
          obtain ⟨a', c', e', -⟩ := slice_form ho
          have hl2 : (L.take (j + 1)).length = j + 1 := by rw [List.length_take]; omega
          rw [hl2] at e'
          subst e'
          have hgw4 : G < w4.heap.size := row_lt HR.out.2.1 rfl
          have FW' : FJ w G n W' Y2 := ⟨HJ.out.1.1, row_kept HJ.out.1.2.1 st (fun k hk e => by
            have h1 := HJ.out.2.2.2.1 k e
            have h2 : G = k := by simpa [Value.ownBlock] using hk
            omega), bw.trans (st.toBelow (fun k hk e => by have := HJ.out.2.2.2.1 k e; have := HR.out.2.2.1.size; omega) bw.size), HJ.out.1.2.2.2⟩
          have hjY : j < Y2.length := by have := HJ.out.1.1; omega
          obtain ⟨C0, f0⟩ := FW'.cell j hjY
          obtain ⟨p0, c0⟩ : ∃ p, W'.cell? ⟨G, j, none⟩ = some p := ⟨_, C0⟩
          have HN : Hid (JJ w w4 G n L (.slice a' (j + 1) c') (.int .i64 ((j + 1 : Nat) : Int)) (W'.setCell ⟨G, j, none⟩ (.int .i64 v))) := by
            refine ⟨j + 1, a', c', Y2.set j v, rfl, rfl, hjn, FW'.set j hjY v, ?_, ?_, fun k hk => ?_, ?_⟩
            · rw [take_set_next Y2 j v hjY, HJ.out.2.1, htk]
            · exact row_kept ho (Stay.setCell (F := fun k => k = G) (Stay.refl _ W') (p := ⟨G, j, none⟩) (fun _ => rfl) _) (fun k hk e => by
                have e2 : k = G := e
                rcases hloc k hk with h9 | h9
                · have := HJ.out.2.2.2.1 k h9; omega
                · have := HJ.out.2.2.2.2; omega)
            · rcases hloc k hk with h9 | h9
              · exact HJ.out.2.2.2.1 k h9
              · exact Nat.le_trans HJ.out.2.2.2.2 h9
            · have := st.size; have := HJ.out.2.2.2.2; simp; omega
          dsimp only [EI] at hap
          clear htk ho st hloc hl1 hl2 FW' C0 HJ Q0 Q1 hgw4 hjY hjL hZn bw hv
          by_cases hi1 : i = 1
          · have e3 : ((i : Int) == 1) = true := by simp; omega
            have hvv := hv1 hi1
            subst hvv
            have hs1 : IntKind.i64.wrap ((n : Int) - 1) = (n : Int) - 1 := by rw [IntKind.wrap_i64]; omega
            have hs2 : IntKind.i64.wrap ((n : Int) - 1 - (j : Int)) = ((n - 1 - j : Nat) : Int) := by rw [IntKind.wrap_i64]; omega
            obtain ⟨t, ht⟩ : ∃ t, t = n - 1 - j := ⟨_, rfl⟩
            have ht1 : (t : Int) < (n : Int) := by omega
            have ht0 : (0 : Int) ≤ (t : Int) := by omega
            rw [← ht] at q1 hs2
            clear ht hv0 hv1 hi1
            go_wp2_with (at_builtin; refine wpList_append_eq rfl _ _ _ _ rfl _ _ _ _ rfl rfl hap ?_; clear hap)
            exact ⟨HN.out, by simp only [intOf]; omega⟩
          · have e3 : ((i : Int) == 1) = false := by simp; omega
            have hvv := hv0 hi1
            subst hvv
            clear hv0 hv1 hi1
            go_wp2_with (at_builtin; refine wpList_append_eq rfl _ _ _ _ rfl _ _ _ _ rfl rfl hap ?_; clear hap)
            exact ⟨HN.out, by simp only [intOf]; omega⟩
        · have j1 : ¬ (j : Int) < (n : Int) := by omega
          obtain rfl : j = n := by omega
          have M0 : Hid (JM w G j L (.slice a j c) (.int .i64 ((j + 0 : Nat) : Int)) wr) := ⟨0, Y2, rfl, by omega, HJ.out.1, by
            have h9 := HJ.out.2.1
            rw [List.take_of_length_le (l := L) (by have := HLL.out.2; omega)] at h9
            simpa using h9, by
            have h9 := HJ.out.2.2.1
            rw [List.take_of_length_le (l := L) (by have := HLL.out.2; omega)] at h9
            exact h9⟩
          have HnG : Hid (∀ k, (Value.slice a j c).ownBlock = some k → k ≠ G) := fun k hk e => by
            have h1 := HJ.out.2.2.2.1 k hk
            have h2 : G < w4.heap.size := row_lt HR.out.2.1 rfl
            omega
          rw [Nat.add_zero] at M0
          clear HJ hj hjn
          go_wp2
          clear j1
          go_loopw [13] (fun u wr => JM w G j L (.slice a j c) u wr) (fun u _ => j + 64 - (intOf u).toNat)
          case atStart => exact M0.out
          case round =>
            clear M0
            obtain ⟨k, Y3, rfl, hk, HM⟩ := hrel
            by_cases hkl : k < 64
            · obtain ⟨p, hp⟩ : ∃ p, p = j + k := ⟨_, rfl⟩
              have hpY : p < Y3.length := by have := HM.out.1.1; omega
              obtain ⟨C0, f0⟩ := HM.out.1.cell p hpY
              obtain ⟨p0, c0⟩ : ∃ q, wr.cell? ⟨G, p, none⟩ = some q := ⟨_, C0⟩
              have HN : Hid (JM w G j L (.slice a j c) (.int .i64 ((p + 1 : Nat) : Int)) (wr.setCell ⟨G, p, none⟩ (.int .i64 (-7)))) := by
                refine ⟨k + 1, Y3.set p (-7), by rw [hp]; rfl, hkl, HM.out.1.set p hpY (-7), ?_, ?_⟩
                · rw [show j + (k + 1) = p + 1 by omega, take_set_next Y3 p (-7) hpY, hp, HM.out.2.1, List.append_assoc, List.replicate_succ']
                · exact row_kept HM.out.2.2 (Stay.setCell (F := fun k => k = G) (Stay.refl _ wr) (p := ⟨G, p, none⟩) (fun _ => rfl) _) (fun q hq e => HnG.out q hq e)
              have p1 : (p : Int) < (j : Int) + 64 := by omega
              have p2 : (0 : Int) ≤ (p : Int) := by omega
              have p3 : (p : Int) < ((j + 64 : Nat) : Int) := by omega
              have hwp : IntKind.i64.wrap ((p : Int) + 1) = ((p + 1 : Nat) : Int) := by rw [IntKind.wrap_i64]; omega
              have hms : j + 64 - (p + 1) < j + 64 - p := by omega
              rw [← hp]
              clear hp C0 HM hpY
              go_wp2
              exact ⟨HN.out, by simp only [intOf]; omega⟩
            · have p1 : ¬ ((j + k : Nat) : Int) < (j : Int) + 64 := by omega
              obtain rfl : k = 64 := by omega
              have HF := Hid.mk HM.out.1
              have hYt : Y3.take j = L := by
                have h9 := congrArg (List.take j) HM.out.2.1
                rw [List.take_take, Nat.min_eq_left (by omega), List.take_left' HLL.out.2] at h9
                exact h9
              have hYm : ∀ q, j ≤ q → (hq : q < Y3.length) → Y3[q] = -7 := fun q h1 h2 => by
                have h9 := HM.out.2.1
                rw [List.take_of_length_le (by have := HM.out.1.1; omega)] at h9
                have h8 : Y3[q]? = (L ++ List.replicate 64 (-7))[q]? := by rw [h9]
                rw [List.getElem?_eq_getElem h2, List.getElem?_append_right (by rw [HLL.out.2]; exact h1), List.getElem?_replicate, if_pos (by have := HLL.out.2; have := HM.out.1.1; omega)] at h8
                exact Option.some.inj h8
              have HY := Hid.mk hYm
              have HAt : Hid (∀ W, Below wr.heap.size wr W → EI.At W (some ⟨G, 0, none⟩) L) := fun W hW => by
                have h9 := El.pre okI (n := j) (HM.out.1.lat hW).2.1 HM.out.1.1.symm (by omega)
                rw [hYt] at h9
                obtain ⟨a9, c9, e9, k9⟩ := El.Row.lat h9
                simp only [Value.slice.injEq] at e9
                rw [e9.1]; exact k9
              have HAn : Hid (∀ W, Below wr.heap.size wr W → EI.At W a L) := fun W hW => by
                obtain ⟨a9, c9, e9, k9⟩ := El.Row.lat (El.Row.below HM.out.2.2 hW)
                simp only [Value.slice.injEq] at e9
                rw [e9.1]; exact k9
              have J1 := fun W hW => join_all x m L HLB.out (some ⟨G, 0, none⟩) (j + 64) W (HAt.out W hW)
              have J2 := fun W hW => rjoin_all x m L HLB.out a c W (HAn.out W hW)
              have J3 := fun W hW => sameInts_any L (some ⟨G, 0, none⟩) a (j + 64) c W (HAt.out W hW) (HAn.out W hW) (by have := HLL.out.2; omega)
              rw [HLL.out.2] at J1 J2 J3
              obtain ⟨er, her⟩ : ∃ er, er = jnE x m L := ⟨_, rfl⟩
              rw [← her] at J1 J2
              have hcj : (j : Int) ≤ ((j + 64 : Nat) : Int) := by omega
              have hcj2 : j ≤ j + 64 := by omega
              clear hYt hYm HM her p1
              go_wp2_with first
                | (go_at_call 15; refine (J1 _ (Below.refl _ _)).mono ?_; clear J1; rintro e w6 ⟨t1, rfl, d1, b6⟩)
                | (go_at_call 16; refine (J2 _ b6).mono ?_; clear J2; rintro e w7 ⟨t2, rfl, d2, b7'⟩; obtain rfl : t2 = t1 := ByteArray.ext (Array.toList_inj.1 (d2.trans d1.symm)); have b7 := b6.trans (b7'.mono b6.size); clear d1 d2 b7' b6)
                | (go_at_call 13; refine (J3 _ b7).mono ?_; clear J3; rintro e w8 ⟨rfl, b8'⟩; have b8 := b7.trans (b8'.mono b7.size); clear b7 b8')
              have C0 : Hid (JC w G j Y3 (.int .i64 ((j + 0 : Nat) : Int)) w8) := ⟨0, rfl, by omega, HF.out.lat b8⟩
              rw [Nat.add_zero] at C0
              clear HAt HAn b8
              go_loopw [19] (fun u wr => JC w G j Y3 u wr) (fun u _ => j + 64 - (intOf u).toNat)
              case atStart => exact C0.out
              case round =>
                clear C0
                obtain ⟨k, rfl, hk, HC⟩ := hrel
                by_cases hkl : k < 64
                · obtain ⟨p, hp⟩ : ∃ p, p = j + k := ⟨_, rfl⟩
                  have hpY : p < Y3.length := by have := HC.out.1; omega
                  obtain ⟨c0, -⟩ := HC.out.cell p hpY
                  rw [HY.out p (by omega) hpY] at c0
                  have HN : Hid (JC w G j Y3 (.int .i64 ((p + 1 : Nat) : Int)) wr) := ⟨k + 1, by rw [hp]; rfl, hkl, HC.out⟩
                  have p1 : (p : Int) < (j : Int) + 64 := by omega
                  have p2 : (0 : Int) ≤ (p : Int) := by omega
                  have p3 : (p : Int) < ((j + 64 : Nat) : Int) := by omega
                  have hwp : IntKind.i64.wrap ((p : Int) + 1) = ((p + 1 : Nat) : Int) := by rw [IntKind.wrap_i64]; omega
                  rw [← hp]
                  clear hp HC hpY
                  go_wp2
                  exact ⟨HN.out, by simp only [intOf]; omega⟩
                · have p1 : ¬ ((j + k : Nat) : Int) < (j : Int) + 64 := by omega
                  have HN : Hid (JI w G j (.int .i64 ((i + 1 : Nat) : Int)) wr) := ⟨i + 1, Y3, rfl, hlt, HC.out⟩
                  clear HC
                  go_wp2
                  exact ⟨HN.out, by simp only [intOf]; omega⟩
    · have i1 : ¬ (i : Int) < 3 := by omega
      have HE := Hid.mk HR.out.2.2.1
      clear HR
      go_wp2
      go_ret
      exact ⟨rfl, HE.out⟩
end Go.Proofs.Ytfjbabiobobboaa
