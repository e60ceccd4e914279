/-
  DERIVED. The document's own look at a reply: Ordered, goes, Tells, fits.
-/
import Derived.Test.YtjdknijjkjmafaaWTellP
import Derived.Test.YtjdknijjkjmafaaWRefA
set_option linter.unusedVariables false
set_option linter.unusedSimpArgs false
namespace Go.Proofs.Ytjdknijjkjmafaa
open Go.RowKit Go.Proofs.SealMath
set_option maxHeartbeats 2000000 in
theorem rordered_any (a b : Ht) (w : World) :
    Calls Try.prog 44 #[.agg (htV a), .agg (htV b)] w fun e w' => e = .returned (.bool (flB a b)) ∧ Below w.heap.size w w' := by
  obtain ⟨d, i, c⟩ := a
  obtain ⟨d', i', c'⟩ := b
  have bA : Below w.heap.size w ((w.alloc (.cells #[.int .i64 d, .int .i64 i, .string c] 25)).alloc (.cells #[.int .i64 d', .int .i64 i', .string c'] 25)) := ((Below.refl _ w).alloc (Nat.le_refl _) _).alloc (by simp) _
  have HB := Hid.mk bA
  unfold flB
  simp only
  clear bA
  by_cases h1 : d < d'
  · have e1 : (decide (d < d') || (decide (d' = d) && decide (i < i'))) = true := by simp [h1]
    rw [e1]
    clear e1
    go_enter Try.func44, Try.ntmps44
    go_wp2
    go_ret
    exact ⟨rfl, HB.out⟩
  · by_cases h2 : d' = d
    · subst h2
      by_cases h3 : i < i'
      · have e1 : (decide (d' < d') || (decide (d' = d') && decide (i < i'))) = true := by simp [h3]
        rw [e1]
        clear e1
        go_enter Try.func44, Try.ntmps44
        go_wp2
        go_ret
        exact ⟨rfl, HB.out⟩
      · have e1 : (decide (d' < d') || (decide (d' = d') && decide (i < i'))) = false := by simp [h3]
        rw [e1]
        clear e1
        go_enter Try.func44, Try.ntmps44
        go_wp2
        go_ret
        exact ⟨rfl, HB.out⟩
    · have e1 : (decide (d < d') || (decide (d' = d) && decide (i < i'))) = false := by simp [h1, h2]
      rw [e1]
      clear e1
      go_enter Try.func44, Try.ntmps44
      go_wp2
      go_ret
      exact ⟨rfl, HB.out⟩
set_option maxHeartbeats 4000000 in
set_option maxRecDepth 100000 in
theorem rgoes_any (L : List Ht) (a : Option Addr) (cap : Nat) (w : World) (hL : HsAt w a L) (hn : L.length < 4611686018427387904) :
    Calls Try.prog 19 #[.slice a L.length cap] w fun e w' => e = .returned (.int .i64 (glE L)) ∧ Below w.heap.size w w' := by
  obtain ⟨n, hne⟩ : ∃ n, n = L.length := ⟨_, rfl⟩
  rw [← hne]
  by_cases hb : 65536 < n
  · have hb' : (65536 : Int) < (n : Int) := by omega
    have hG : glE L = 43 := by unfold glE; rw [if_pos (by omega)]
    rw [hG]
    clear hL hne hb hG hn
    go_enter Try.func19, Try.ntmps19
    go_wp2
    go_ret
    exact ⟨rfl, Below.refl _ _⟩
  · have hb' : ¬ (65536 : Int) < (n : Int) := by omega
    have hG : glE L = gsE (prv L 0) (L.drop 0) := by unfold glE; rw [if_neg (by omega), List.drop_zero]; rfl
    rw [hG]
    obtain ⟨E, hE⟩ : ∃ E, E = gsE (prv L 0) (L.drop 0) := ⟨_, rfl⟩
    rw [← hE]
    have HE := Hid.mk hE
    have HN := Hid.mk (And.intro hne (And.intro hb hL))
    clear hL hne hb hG hE hn
    go_enter Try.func19, Try.ntmps19
    go_wp2
    go_loopw [3] (fun u wr => ∃ i : Nat, u = .int .i64 i ∧ i ≤ n ∧ Below w.heap.size w wr ∧ Hid (E = gsE (prv L i) (L.drop i))) (fun u _ => n - (intOf u).toNat)
    case atStart => exact ⟨0, rfl, Nat.zero_le _, Below.refl _ _, HE⟩
    case round =>
      obtain ⟨i, rfl, hin, hI, HEi⟩ := hrel
      by_cases hlt : i < n
      · have hlt' : (i : Int) < (n : Int) := by omega
        have i0 : 0 ≤ (i : Int) := by omega
        have hil : i < L.length := by have := HN.out.1; omega
        have hat := HN.out.2.2
        rcases hat with hat | ⟨g, off, rfl, hgl, hcell⟩
        · rw [hat] at hil; simp at hil
        obtain ⟨p0, p1, p2⟩ := hcell i hil
        have q0 := cell_below hI p0
        have q1 := cell_below hI p1
        have q2 := cell_below hI p2
        obtain ⟨ht, hht⟩ : ∃ ht, ht = L[i] := ⟨_, rfl⟩
        rw [← hht] at q0 q1 q2
        have HT : Hid (∃ h : i < L.length, L[i] = ht) := ⟨hil, hht.symm⟩
        have HC' := Hid.mk hcell
        have HI := Hid.mk hI
        have HB : Hid (hkE ht ≠ 0 → E = hkE ht) := fun h => by
          rw [HEi.out, gsE_bad L i hil (by rw [← hht]; exact h), ← hht]
        clear p0 p1 p2 hcell hht hil hI
        obtain ⟨d3, d4, d5⟩ := ht
        simp only at q0 q1 q2
        by_cases k1 : d3 < 0
        · have HQ : Hid (E = 13) := by
            have e : hkE ⟨d3, d4, d5⟩ = 13 := by unfold hkE ckE; simp [k1]
            show _ = _
            rw [HB.out (by rw [e]; decide), e]
          clear HB HT
          go_wp2
          go_ret
          exact ⟨by rw [HQ.out]; rfl, HI.out⟩
        by_cases k2 : d4 < 0
        · have HQ : Hid (E = 13) := by
            have e : hkE ⟨d3, d4, d5⟩ = 13 := by unfold hkE ckE; simp [k2]
            show _ = _
            rw [HB.out (by rw [e]; decide), e]
          clear HB HT
          go_wp2
          go_ret
          exact ⟨by rw [HQ.out]; rfl, HI.out⟩
        by_cases k3 : 65536 < d5.size
        · have HQ : Hid (E = 36) := by
            have e : hkE ⟨d3, d4, d5⟩ = 36 := by unfold hkE ckE; simp [k1, k2, k3]
            show _ = _
            rw [HB.out (by rw [e]; decide), e]
          have k3' : (65536 : Int) < (d5.size : Int) := by omega
          clear HB HT
          go_wp2
          go_ret
          exact ⟨by rw [HQ.out]; rfl, HI.out⟩
        have k3' : ¬ (65536 : Int) < (d5.size : Int) := by omega
        have e0 : hkE ⟨d3, d4, d5⟩ = 0 := by unfold hkE ckE; simp [k1, k2, k3]
        have HK := Hid.mk e0
        clear HB e0 k3
        by_cases hi0 : i = 0
        · have HF : Hid (E = gsE (prv L 1) (L.drop 1)) := by
            obtain ⟨hil, hht⟩ := HT.out
            subst hi0
            show _ = _
            rw [HEi.out, gsE_first L hil (by rw [hht, HK.out])]
          subst hi0
          rw [Nat.zero_mul, Nat.add_zero] at q0 q1 q2
          clear HT HK
          go_wp2
          refine wp_region_held_drew (S := fun _ => True) (by kernel_rfl) ?_ (fun hHeld => ?_)
          · trivial
          refine wpAnyH_take (i := 0) (oi := { dst := some 34, op := Op.move (Operand.tmp 3), type := 3, pos := "kindredref18.go:105", after := #[], guard := none }) (v := ?vb0) rfl (by kernel_rfl) (by kernel_rfl) (by kernel_rfl) (fun _ _ _ h => h) (Or.inl ⟨by rfl, ?hb0⟩) (by assumption) ?rb0
          case hb0 => (intro w0 hSw; (try dsimp only at hSw); go_simp; try (with_reducible rfl))
          simp only [Act.put, List.setIfInBounds_toArray, List.set_cons_zero, List.set_cons_succ]
          refine wpAnyH_take (i := 1) (oi := { dst := some 35, op := Op.binOp BinOp.gtr 3 (Operand.tmp 34) (Operand.const (Value.int IntKind.i64 0)) 3, type := 4, pos := "kindredref18.go:105", after := #[{ on := 0, ground := Ground.data }], guard := none }) (v := ?vb1) rfl (by kernel_rfl) (by kernel_rfl) (by kernel_rfl) (fun _ _ _ h => h) (Or.inl ⟨by rfl, ?hb1⟩) (by assumption) ?rb1
          case hb1 => (intro w0 hSw; (try dsimp only at hSw); go_simp; try (with_reducible rfl))
          simp only [Act.put, List.setIfInBounds_toArray, List.set_cons_zero, List.set_cons_succ]
          refine wpAnyH_take (i := 2) (oi := { dst := some 36, op := Op.move (Operand.tmp 35), type := 4, pos := "kindredref18.go:105", after := #[{ on := 1, ground := Ground.data }], guard := none }) (v := ?vb2) rfl (by kernel_rfl) (by kernel_rfl) (by kernel_rfl) (fun _ _ _ h => h) (Or.inl ⟨by rfl, ?hb2⟩) (by assumption) ?rb2
          case hb2 => (intro w0 hSw; (try dsimp only at hSw); go_simp; try (with_reducible rfl))
          simp only [Act.put, List.setIfInBounds_toArray, List.set_cons_zero, List.set_cons_succ]
          refine wpAnyH_take (i := 3) (oi := { dst := some 37, op := Op.move (Operand.tmp 0), type := 26, pos := "kindredref18.go:105", after := #[{ on := 2, ground := Ground.guard }], guard := some (2, true) }) rfl (by kernel_rfl) (by kernel_rfl) (by kernel_rfl) (fun _ _ _ h => h) (Or.inr ⟨by rfl, rfl⟩) (by assumption) ?_
          simp only [Act.put, List.setIfInBounds_toArray, List.set_cons_zero, List.set_cons_succ]
          refine wpAnyH_take (i := 4) (oi := { dst := some 38, op := Op.move (Operand.tmp 3), type := 3, pos := "kindredref18.go:105", after := #[{ on := 2, ground := Ground.guard }], guard := some (2, true) }) rfl (by kernel_rfl) (by kernel_rfl) (by kernel_rfl) (fun _ _ _ h => h) (Or.inr ⟨by rfl, rfl⟩) (by assumption) ?_
          simp only [Act.put, List.setIfInBounds_toArray, List.set_cons_zero, List.set_cons_succ]
          refine wpAnyH_take (i := 5) (oi := { dst := some 39, op := Op.binOp BinOp.sub 3 (Operand.tmp 38) (Operand.const (Value.int IntKind.i64 1)) 3, type := 3, pos := "kindredref18.go:105", after := #[{ on := 4, ground := Ground.data }, { on := 2, ground := Ground.guard }], guard := some (2, true) }) rfl (by kernel_rfl) (by kernel_rfl) (by kernel_rfl) (fun _ _ _ h => h) (Or.inr ⟨by rfl, rfl⟩) (by assumption) ?_
          simp only [Act.put, List.setIfInBounds_toArray, List.set_cons_zero, List.set_cons_succ]
          refine wpAnyH_take (i := 6) (oi := { dst := some 40, op := Op.indexAddr 26 (Operand.tmp 37) (Operand.tmp 39), type := 0, pos := "kindredref18.go:105", after := #[{ on := 3, ground := Ground.data }, { on := 5, ground := Ground.data }, { on := 2, ground := Ground.guard }], guard := some (2, true) }) rfl (by kernel_rfl) (by kernel_rfl) (by kernel_rfl) (fun _ _ _ h => h) (Or.inr ⟨by rfl, rfl⟩) (by assumption) ?_
          simp only [Act.put, List.setIfInBounds_toArray, List.set_cons_zero, List.set_cons_succ]
          refine wpAnyH_take (i := 7) (oi := { dst := some 41, op := Op.load 25 (Operand.tmp 40), type := 25, pos := "kindredref18.go:105", after := #[{ on := 6, ground := Ground.data }, { on := 2, ground := Ground.guard }], guard := some (2, true) }) rfl (by kernel_rfl) (by kernel_rfl) (by kernel_rfl) (fun _ _ _ h => h) (Or.inr ⟨by rfl, rfl⟩) (by assumption) ?_
          simp only [Act.put, List.setIfInBounds_toArray, List.set_cons_zero, List.set_cons_succ]
          refine wpAnyH_take (i := 8) (oi := { dst := some 42, op := Op.move (Operand.tmp 0), type := 26, pos := "kindredref18.go:105", after := #[{ on := 2, ground := Ground.guard }], guard := some (2, true) }) rfl (by kernel_rfl) (by kernel_rfl) (by kernel_rfl) (fun _ _ _ h => h) (Or.inr ⟨by rfl, rfl⟩) (by assumption) ?_
          simp only [Act.put, List.setIfInBounds_toArray, List.set_cons_zero, List.set_cons_succ]
          refine wpAnyH_take (i := 9) (oi := { dst := some 43, op := Op.move (Operand.tmp 3), type := 3, pos := "kindredref18.go:105", after := #[{ on := 2, ground := Ground.guard }], guard := some (2, true) }) rfl (by kernel_rfl) (by kernel_rfl) (by kernel_rfl) (fun _ _ _ h => h) (Or.inr ⟨by rfl, rfl⟩) (by assumption) ?_
          simp only [Act.put, List.setIfInBounds_toArray, List.set_cons_zero, List.set_cons_succ]
          refine wpAnyH_take (i := 10) (oi := { dst := some 44, op := Op.indexAddr 26 (Operand.tmp 42) (Operand.tmp 43), type := 0, pos := "kindredref18.go:105", after := #[{ on := 8, ground := Ground.data }, { on := 9, ground := Ground.data }, { on := 2, ground := Ground.guard }], guard := some (2, true) }) rfl (by kernel_rfl) (by kernel_rfl) (by kernel_rfl) (fun _ _ _ h => h) (Or.inr ⟨by rfl, rfl⟩) (by assumption) ?_
          simp only [Act.put, List.setIfInBounds_toArray, List.set_cons_zero, List.set_cons_succ]
          refine wpAnyH_take (i := 11) (oi := { dst := some 45, op := Op.load 25 (Operand.tmp 44), type := 25, pos := "kindredref18.go:105", after := #[{ on := 10, ground := Ground.data }, { on := 2, ground := Ground.guard }], guard := some (2, true) }) rfl (by kernel_rfl) (by kernel_rfl) (by kernel_rfl) (fun _ _ _ h => h) (Or.inr ⟨by rfl, rfl⟩) (by assumption) ?_
          simp only [Act.put, List.setIfInBounds_toArray, List.set_cons_zero, List.set_cons_succ]
          refine wpAnyH_take (i := 12) (oi := { dst := some 46, op := Op.call { callee := Callee.value (Operand.func 44), args := #[Operand.tmp 41, Operand.tmp 45], argTypes := #[25, 25] }, type := 4, pos := "kindredref18.go:105", after := #[{ on := 7, ground := Ground.data }, { on := 11, ground := Ground.data }, { on := 2, ground := Ground.chain }, { on := 2, ground := Ground.guard }], guard := some (2, true) }) rfl (by kernel_rfl) (by kernel_rfl) (by kernel_rfl) (fun _ _ _ h => h) (Or.inr ⟨by rfl, rfl⟩) (by assumption) ?_
          simp only [Act.put, List.setIfInBounds_toArray, List.set_cons_zero, List.set_cons_succ]
          refine wpAnyH_take (i := 13) (oi := { dst := some 47, op := Op.unOp UnOp.not 4 (Operand.tmp 46), type := 4, pos := "kindredref18.go:105", after := #[{ on := 12, ground := Ground.data }, { on := 2, ground := Ground.guard }], guard := some (2, true) }) rfl (by kernel_rfl) (by kernel_rfl) (by kernel_rfl) (fun _ _ _ h => h) (Or.inr ⟨by rfl, rfl⟩) (by assumption) ?_
          simp only [Act.put, List.setIfInBounds_toArray, List.set_cons_zero, List.set_cons_succ]
          refine wpAnyH_take (i := 14) (oi := { dst := some 48, op := Op.pick (Operand.tmp 36) (Operand.tmp 47) (Operand.const (Value.bool false)), type := 4, pos := "kindredref18.go:105", after := #[{ on := 2, ground := Ground.data }, { on := 13, ground := Ground.data }], guard := none }) (v := ?vb14) rfl (by kernel_rfl) (by kernel_rfl) (by kernel_rfl) (fun _ _ _ h => h) (Or.inl ⟨by rfl, ?hb14⟩) (by assumption) ?rb14
          case hb14 => (intro w0 hSw; (try dsimp only at hSw); go_simp; try (with_reducible rfl))
          simp only [Act.put, List.setIfInBounds_toArray, List.set_cons_zero, List.set_cons_succ]
          refine wpAnyH_done (by kernel_rfl) ?_ _
          go_wp2
          exact ⟨⟨1, rfl, by omega, HI.out.drew, HF⟩, by simp only [intOf]; omega⟩
        · obtain ⟨j, hj⟩ : ∃ j, i = j + 1 := ⟨i - 1, by omega⟩
          obtain ⟨hil, hht⟩ := HT.out
          have hjl : j < L.length := by omega
          obtain ⟨r0, r1, r2⟩ := HC'.out j hjl
          obtain ⟨pt, hpt⟩ : ∃ pt, pt = L[j] := ⟨_, rfl⟩
          rw [← hpt] at r0 r1 r2
          have r0 := cell_below HI.out r0
          have r1 := cell_below HI.out r1
          have r2 := cell_below HI.out r2
          have hfl := fun W => rordered_any pt ⟨d3, d4, d5⟩ W
          obtain ⟨fb, hfb⟩ : ∃ fb, fb = flB pt ⟨d3, d4, d5⟩ := ⟨_, rfl⟩
          rw [← hfb] at hfl
          have HN1 : Hid (fb = true → E = gsE (prv L (i + 1)) (L.drop (i + 1))) := fun h => by
            subst hj
            rw [HEi.out]
            exact gsE_next L j hil (by rw [hht, HK.out]) (by rw [hht, ← hpt, ← hfb]; exact h)
          have HN2 : Hid (fb = false → E = 50) := fun h => by
            subst hj
            rw [HEi.out]
            exact gsE_order L j hil (by rw [hht, HK.out]) (by rw [hht, ← hpt, ← hfb]; exact h)
          have i1 : (0 : Int) < (i : Int) := by omega
          have i1n : 0 < i := by omega
          have j0 : 0 ≤ (j : Int) := by omega
          have jn : (j : Int) < (n : Int) := by omega
          have qq : Hid (IntKind.i64.wrap ((i : Int) - 1) = (j : Int) ∧ wrap64 ((i : Int) - 1) = (j : Int)) := ⟨i64_eq (by omega) (by omega), w64_eq (by omega) (by omega)⟩
          have wi : Hid (IntKind.i64.wrap ((i : Int) + 1) = ((i + 1 : Nat) : Int)) := i64_in _ (by omega) (by omega)
          obtain ⟨a1, a2⟩ := qq.out
          clear HT hil hht hpt hfb hjl hj hi0 qq HK
          obtain ⟨d0, d1, d2⟩ := pt
          simp only [htV] at hfl q0 q1 q2 r0 r1 r2
          go_wp2
          refine wp_region_held_drew (S := fun w' => w'.cell? ⟨g, off + j * 3, none⟩ = some (.int .i64 d0) ∧ w'.cell? ⟨g, off + j * 3 + 1, none⟩ = some (.int .i64 d1) ∧ w'.cell? ⟨g, off + j * 3 + 2, none⟩ = some (.string d2) ∧ w'.cell? ⟨g, off + i * 3, none⟩ = some (.int .i64 d3) ∧ w'.cell? ⟨g, off + i * 3 + 1, none⟩ = some (.int .i64 d4) ∧ w'.cell? ⟨g, off + i * 3 + 2, none⟩ = some (.string d5)) (by kernel_rfl) ?_ (fun hHeld => ?_)
          · exact ⟨r0, r1, r2, q0, q1, q2⟩
          refine wpAnyH_take (i := 0) (oi := { dst := some 34, op := Op.move (Operand.tmp 3), type := 3, pos := "kindredref18.go:105", after := #[], guard := none }) (v := ?vc0) rfl (by kernel_rfl) (by kernel_rfl) (by kernel_rfl) (fun _ _ _ h => h) (Or.inl ⟨by rfl, ?hc0⟩) (by assumption) ?rc0
          case hc0 => (intro w0 hSw; (try dsimp only at hSw); go_simp; try (with_reducible rfl))
          simp only [Act.put, List.setIfInBounds_toArray, List.set_cons_zero, List.set_cons_succ]
          refine wpAnyH_take (i := 1) (oi := { dst := some 35, op := Op.binOp BinOp.gtr 3 (Operand.tmp 34) (Operand.const (Value.int IntKind.i64 0)) 3, type := 4, pos := "kindredref18.go:105", after := #[{ on := 0, ground := Ground.data }], guard := none }) (v := ?vc1) rfl (by kernel_rfl) (by kernel_rfl) (by kernel_rfl) (fun _ _ _ h => h) (Or.inl ⟨by rfl, ?hc1⟩) (by assumption) ?rc1
          case hc1 => (intro w0 hSw; (try dsimp only at hSw); go_simp; try (with_reducible rfl))
          simp only [Act.put, List.setIfInBounds_toArray, List.set_cons_zero, List.set_cons_succ]
          refine wpAnyH_take (i := 2) (oi := { dst := some 36, op := Op.move (Operand.tmp 35), type := 4, pos := "kindredref18.go:105", after := #[{ on := 1, ground := Ground.data }], guard := none }) (v := ?vc2) rfl (by kernel_rfl) (by kernel_rfl) (by kernel_rfl) (fun _ _ _ h => h) (Or.inl ⟨by rfl, ?hc2⟩) (by assumption) ?rc2
          case hc2 => (intro w0 hSw; (try dsimp only at hSw); go_simp; try (with_reducible rfl))
          simp only [Act.put, List.setIfInBounds_toArray, List.set_cons_zero, List.set_cons_succ]
          refine wpAnyH_take (i := 3) (oi := { dst := some 37, op := Op.move (Operand.tmp 0), type := 26, pos := "kindredref18.go:105", after := #[{ on := 2, ground := Ground.guard }], guard := some (2, true) }) (v := ?vc3) rfl (by kernel_rfl) (by kernel_rfl) (by kernel_rfl) (fun _ _ _ h => h) (Or.inl ⟨by rfl, ?hc3⟩) (by assumption) ?rc3
          case hc3 => (intro w0 hSw; (try dsimp only at hSw); go_simp; try (with_reducible rfl))
          simp only [Act.put, List.setIfInBounds_toArray, List.set_cons_zero, List.set_cons_succ]
          refine wpAnyH_take (i := 4) (oi := { dst := some 38, op := Op.move (Operand.tmp 3), type := 3, pos := "kindredref18.go:105", after := #[{ on := 2, ground := Ground.guard }], guard := some (2, true) }) (v := ?vc4) rfl (by kernel_rfl) (by kernel_rfl) (by kernel_rfl) (fun _ _ _ h => h) (Or.inl ⟨by rfl, ?hc4⟩) (by assumption) ?rc4
          case hc4 => (intro w0 hSw; (try dsimp only at hSw); go_simp; try (with_reducible rfl))
          simp only [Act.put, List.setIfInBounds_toArray, List.set_cons_zero, List.set_cons_succ]
          refine wpAnyH_take (i := 5) (oi := { dst := some 39, op := Op.binOp BinOp.sub 3 (Operand.tmp 38) (Operand.const (Value.int IntKind.i64 1)) 3, type := 3, pos := "kindredref18.go:105", after := #[{ on := 4, ground := Ground.data }, { on := 2, ground := Ground.guard }], guard := some (2, true) }) (v := ?vc5) rfl (by kernel_rfl) (by kernel_rfl) (by kernel_rfl) (fun _ _ _ h => h) (Or.inl ⟨by rfl, ?hc5⟩) (by assumption) ?rc5
          case hc5 => (intro w0 hSw; (try dsimp only at hSw); go_simp; try (with_reducible rfl))
          simp only [Act.put, List.setIfInBounds_toArray, List.set_cons_zero, List.set_cons_succ]
          refine wpAnyH_take (i := 6) (oi := { dst := some 40, op := Op.indexAddr 26 (Operand.tmp 37) (Operand.tmp 39), type := 0, pos := "kindredref18.go:105", after := #[{ on := 3, ground := Ground.data }, { on := 5, ground := Ground.data }, { on := 2, ground := Ground.guard }], guard := some (2, true) }) (v := ?vc6) rfl (by kernel_rfl) (by kernel_rfl) (by kernel_rfl) (fun _ _ _ h => h) (Or.inl ⟨by rfl, ?hc6⟩) (by assumption) ?rc6
          case hc6 => (intro w0 hSw; (try dsimp only at hSw); go_simp; try (with_reducible rfl))
          simp only [Act.put, List.setIfInBounds_toArray, List.set_cons_zero, List.set_cons_succ]
          refine wpAnyH_take (i := 7) (oi := { dst := some 41, op := Op.load 25 (Operand.tmp 40), type := 25, pos := "kindredref18.go:105", after := #[{ on := 6, ground := Ground.data }, { on := 2, ground := Ground.guard }], guard := some (2, true) }) (v := ?vc7) rfl (by kernel_rfl) (by kernel_rfl) (by kernel_rfl) (fun _ _ _ h => h) (Or.inl ⟨by rfl, ?hc7⟩) (by assumption) ?rc7
          case hc7 => (intro w0 hSw; (try dsimp only at hSw); go_simp; try (with_reducible rfl))
          simp only [Act.put, List.setIfInBounds_toArray, List.set_cons_zero, List.set_cons_succ]
          refine wpAnyH_take (i := 8) (oi := { dst := some 42, op := Op.move (Operand.tmp 0), type := 26, pos := "kindredref18.go:105", after := #[{ on := 2, ground := Ground.guard }], guard := some (2, true) }) (v := ?vc8) rfl (by kernel_rfl) (by kernel_rfl) (by kernel_rfl) (fun _ _ _ h => h) (Or.inl ⟨by rfl, ?hc8⟩) (by assumption) ?rc8
          case hc8 => (intro w0 hSw; (try dsimp only at hSw); go_simp; try (with_reducible rfl))
          simp only [Act.put, List.setIfInBounds_toArray, List.set_cons_zero, List.set_cons_succ]
          refine wpAnyH_take (i := 9) (oi := { dst := some 43, op := Op.move (Operand.tmp 3), type := 3, pos := "kindredref18.go:105", after := #[{ on := 2, ground := Ground.guard }], guard := some (2, true) }) (v := ?vc9) rfl (by kernel_rfl) (by kernel_rfl) (by kernel_rfl) (fun _ _ _ h => h) (Or.inl ⟨by rfl, ?hc9⟩) (by assumption) ?rc9
          case hc9 => (intro w0 hSw; (try dsimp only at hSw); go_simp; try (with_reducible rfl))
          simp only [Act.put, List.setIfInBounds_toArray, List.set_cons_zero, List.set_cons_succ]
          refine wpAnyH_take (i := 10) (oi := { dst := some 44, op := Op.indexAddr 26 (Operand.tmp 42) (Operand.tmp 43), type := 0, pos := "kindredref18.go:105", after := #[{ on := 8, ground := Ground.data }, { on := 9, ground := Ground.data }, { on := 2, ground := Ground.guard }], guard := some (2, true) }) (v := ?vc10) rfl (by kernel_rfl) (by kernel_rfl) (by kernel_rfl) (fun _ _ _ h => h) (Or.inl ⟨by rfl, ?hc10⟩) (by assumption) ?rc10
          case hc10 => (intro w0 hSw; (try dsimp only at hSw); go_simp; try (with_reducible rfl))
          simp only [Act.put, List.setIfInBounds_toArray, List.set_cons_zero, List.set_cons_succ]
          refine wpAnyH_take (i := 11) (oi := { dst := some 45, op := Op.load 25 (Operand.tmp 44), type := 25, pos := "kindredref18.go:105", after := #[{ on := 10, ground := Ground.data }, { on := 2, ground := Ground.guard }], guard := some (2, true) }) (v := ?vc11) rfl (by kernel_rfl) (by kernel_rfl) (by kernel_rfl) (fun _ _ _ h => h) (Or.inl ⟨by rfl, ?hc11⟩) (by assumption) ?rc11
          case hc11 => (intro w0 hSw; (try dsimp only at hSw); go_simp; try (with_reducible rfl))
          simp only [Act.put, List.setIfInBounds_toArray, List.set_cons_zero, List.set_cons_succ]
          refine wpAnyH_ready (rs := [12]) (by kernel_rfl) (by simp) ?_
          refine AllReadyH.cons rfl (fun K hK => ?_) AllReadyH.nil
          go_simp
          go_wp2_with (go_at_call 44; refine (hfl _).mono ?_; clear hfl; rintro e w8 ⟨rfl, b8⟩; have H8 := Hid.mk (chain HI.out.drew b8 (Nat.le_refl _)); have r0 := cell_below b8 r0; have r1 := cell_below b8 r1; have r2 := cell_below b8 r2; have q0 := cell_below b8 q0; have q1 := cell_below b8 q1; have q2 := cell_below b8 q2; clear b8)
          refine hK.out _ _ ?_ (fun hHeld => ?_)
          · exact ⟨r0, r1, r2, q0, q1, q2⟩
          clear hK K
          refine wpAnyH_take (i := 13) (oi := { dst := some 47, op := Op.unOp UnOp.not 4 (Operand.tmp 46), type := 4, pos := "kindredref18.go:105", after := #[{ on := 12, ground := Ground.data }, { on := 2, ground := Ground.guard }], guard := some (2, true) }) (v := ?vc13) rfl (by kernel_rfl) (by kernel_rfl) (by kernel_rfl) (fun _ _ _ h => h) (Or.inl ⟨by rfl, ?hc13⟩) (by assumption) ?rc13
          case hc13 => (intro w0 hSw; (try dsimp only at hSw); go_simp; try (with_reducible rfl))
          simp only [Act.put, List.setIfInBounds_toArray, List.set_cons_zero, List.set_cons_succ]
          refine wpAnyH_take (i := 14) (oi := { dst := some 48, op := Op.pick (Operand.tmp 36) (Operand.tmp 47) (Operand.const (Value.bool false)), type := 4, pos := "kindredref18.go:105", after := #[{ on := 2, ground := Ground.data }, { on := 13, ground := Ground.data }], guard := none }) (v := ?vc14) rfl (by kernel_rfl) (by kernel_rfl) (by kernel_rfl) (fun _ _ _ h => h) (Or.inl ⟨by rfl, ?hc14⟩) (by assumption) ?rc14
          case hc14 => (intro w0 hSw; (try dsimp only at hSw); go_simp; try (with_reducible rfl))
          simp only [Act.put, List.setIfInBounds_toArray, List.set_cons_zero, List.set_cons_succ]
          refine wpAnyH_done (by kernel_rfl) ?_ _
          cases fb with
          | true =>
            have hw1 := wi.out
            have HQ := Hid.mk (HN1.out rfl)
            clear HN1 HN2
            clear a1 a2 wi
            go_wp2
            exact ⟨⟨i + 1, rfl, by omega, H8.out, HQ⟩, by simp only [intOf]; omega⟩
          | false =>
            have HQ := Hid.mk (HN2.out rfl)
            clear a1 a2 wi HN1 HN2
            go_wp2
            go_ret
            refine ⟨?_, H8.out⟩
            rw [HQ.out]
            rfl
      · have hlt' : ¬ (i : Int) < (n : Int) := by omega
        have he : i = n := by omega
        have HD : Hid (E = 0) := by
          show _ = _
          rw [HEi.out, he, HN.out.1]; exact gsE_end L
        have HI := Hid.mk hI
        clear hlt hin hI he
        go_wp2
        go_ret
        refine ⟨?_, HI.out⟩
        rw [HD.out]
        rfl
def tlP (i : Nat) : Bool × Bool × Bool :=
  match i with
  | 2 => (true, false, false)
  | 3 => (false, false, true)
  | 4 => (false, false, true)
  | 5 => (false, true, false)
  | 7 => (false, true, false)
  | _ => (false, false, false)
set_option maxHeartbeats 2000000 in
theorem tells_any (i : Nat) (hi : i < 9) (w : World) :
    Calls Try.prog 21 #[.int .i64 (i + 1 : Nat)] w fun e w' => e = .returned (.tuple #[.bool (tlP i).1, .bool (tlP i).2.1, .bool (tlP i).2.2]) ∧ w' = w := by
  have h : i = 0 ∨ i = 1 ∨ i = 2 ∨ i = 3 ∨ i = 4 ∨ i = 5 ∨ i = 6 ∨ i = 7 ∨ i = 8 := by omega
  rcases h with rfl | rfl | rfl | rfl | rfl | rfl | rfl | rfl | rfl
  · show Calls Try.prog 21 #[.int .i64 1] w _
    go_enter Try.func21, Try.ntmps21
    go_wp2
    refine bodyPost_ret (v := .tuple #[.bool false, .bool false, .bool false]) (by simp [results, Try.results21, go_sem]; try rfl) rfl ?_
    exact ⟨rfl, rfl⟩
  · show Calls Try.prog 21 #[.int .i64 2] w _
    go_enter Try.func21, Try.ntmps21
    go_wp2
    refine bodyPost_ret (v := .tuple #[.bool false, .bool false, .bool false]) (by simp [results, Try.results21, go_sem]; try rfl) rfl ?_
    exact ⟨rfl, rfl⟩
  · show Calls Try.prog 21 #[.int .i64 3] w _
    go_enter Try.func21, Try.ntmps21
    go_wp2
    refine bodyPost_ret (v := .tuple #[.bool true, .bool false, .bool false]) (by simp [results, Try.results21, go_sem]; try rfl) rfl ?_
    exact ⟨rfl, rfl⟩
  · show Calls Try.prog 21 #[.int .i64 4] w _
    go_enter Try.func21, Try.ntmps21
    go_wp2
    refine bodyPost_ret (v := .tuple #[.bool false, .bool false, .bool true]) (by simp [results, Try.results21, go_sem]; try rfl) rfl ?_
    exact ⟨rfl, rfl⟩
  · show Calls Try.prog 21 #[.int .i64 5] w _
    go_enter Try.func21, Try.ntmps21
    go_wp2
    refine bodyPost_ret (v := .tuple #[.bool false, .bool false, .bool true]) (by simp [results, Try.results21, go_sem]; try rfl) rfl ?_
    exact ⟨rfl, rfl⟩
  · show Calls Try.prog 21 #[.int .i64 6] w _
    go_enter Try.func21, Try.ntmps21
    go_wp2
    refine bodyPost_ret (v := .tuple #[.bool false, .bool true, .bool false]) (by simp [results, Try.results21, go_sem]; try rfl) rfl ?_
    exact ⟨rfl, rfl⟩
  · show Calls Try.prog 21 #[.int .i64 7] w _
    go_enter Try.func21, Try.ntmps21
    go_wp2
    refine bodyPost_ret (v := .tuple #[.bool false, .bool false, .bool false]) (by simp [results, Try.results21, go_sem]; try rfl) rfl ?_
    exact ⟨rfl, rfl⟩
  · show Calls Try.prog 21 #[.int .i64 8] w _
    go_enter Try.func21, Try.ntmps21
    go_wp2
    refine bodyPost_ret (v := .tuple #[.bool false, .bool true, .bool false]) (by simp [results, Try.results21, go_sem]; try rfl) rfl ?_
    exact ⟨rfl, rfl⟩
  · show Calls Try.prog 21 #[.int .i64 9] w _
    go_enter Try.func21, Try.ntmps21
    go_wp2
    refine bodyPost_ret (v := .tuple #[.bool false, .bool false, .bool false]) (by simp [results, Try.results21, go_sem]; try rfl) rfl ?_
    exact ⟨rfl, rfl⟩
end Go.Proofs.Ytjdknijjkjmafaa
