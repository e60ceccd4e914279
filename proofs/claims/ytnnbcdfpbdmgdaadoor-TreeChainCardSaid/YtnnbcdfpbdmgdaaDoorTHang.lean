/-
  DERIVED. hang: a node at the end of its code's way.
-/
import Derived.Test.YtnnbcdfpbdmgdaaDoorTGrow
import Derived.Deep.RegionHeld
set_option linter.unusedVariables false
set_option linter.unusedSimpArgs false
namespace Go.Proofs.YtnnbcdfpbdmgdaaDoor
open Go.RowKit Go.Maps Go.Proofs.BitMath Go.Proofs.TreeMath
/-- What hanging leaves. -/
structure HangTo {n : Nat} (W W' : World) (t wd : Nat) (T' : List (Nd (Cd n))) (bs : List Nat) (ms : List (Option Nat)) (x : Num) : Prop where
  ex : ∃ bs' ms' x', TR W' t wd T' bs' ms' x' ∧ x'.live = x.live + 1 ∧ x'.dead = x.dead ∧ x'.looked = x.looked ∧ ∀ k, TFoot t bs' ms' k → TFoot t bs ms k ∨ W.heap.size ≤ k
  stay : Stay (TFoot t bs ms) W W'
theorem map_some (w : World) (b : Nat) : (binOp BinOp.eql 71 (.map (some b)) (.map none)).run Tryd.prog w = .ok (.bool false) w := by kernel_rfl
theorem map_none (w : World) : (binOp BinOp.eql 71 (.map none) (.map none)).run Tryd.prog w = .ok (.bool true) w := by kernel_rfl
/-- The tree's own two stores. -/
theorem fin_t {w5 : World} {t : Nat} {a0 a1 a2 a3 a4 a5 y z : Value} (h : w5.heap[t]? = some (.cells #[a0, a1, a2, a3, a4, a5] 64 (0, 0))) :
    ((w5.setCell ⟨t, 2, none⟩ y).setCell ⟨t, 4, none⟩ z).drew.heap[t]? = some (.cells #[a0, a1, y, a3, z, a5] 64 (0, 0)) ∧ Stay (fun k => k = t) w5 ((w5.setCell ⟨t, 2, none⟩ y).setCell ⟨t, 4, none⟩ z).drew := by
  have b1 : (w5.setCell ⟨t, 2, none⟩ y).heap[t]? = some (.cells #[a0, a1, y, a3, a4, a5] 64 (0, 0)) := heap_setCell_same w5 t 2 _ _ _ h
  refine ⟨heap_setCell_same _ t 4 _ _ _ b1, ?_⟩
  refine Stay.drew (Stay.setCell (Stay.setCell (Stay.refl _ w5) (p := ⟨t, 2, none⟩) (fun _ => ?_) _) (p := ⟨t, 4, none⟩) (fun _ => ?_) _) <;> rfl
set_option maxHeartbeats 4000000 in
set_option maxRecDepth 100000 in
theorem hang_map {n t wd : Nat} {T : List (Nd (Cd n))} {bs : List Nat} {ms : List (Option Nat)} {x : Num} (c : Cd n) (W : World) (h : TR W t wd T bs ms x) (hc : ∀ (j : Nat) nd, T[j]? = some nd → nd.code ≠ c) (hsm : T.length < 1099511627776)
    {f : Nat} (hf : f = reach dC T c T.length 0) {nd : Nd (Cd n)} (hnd : T[f]? = some nd) (hch : child T f (dC nd.code c) = none) {b m : Nat} (hb : bs[f]? = some b) (hm : ms[f]? = some (some m)) :
    Calls Tryd.prog 36 #[.pointer (some ⟨t, 0, none⟩), .agg #[.pointer (some ⟨b, 0, none⟩), .int .i64 (dC nd.code c : Nat), .int .i64 (dep T (f + 1) f : Nat)], .string c.1] W (fun r w' => r = .returned (.tuple #[]) ∧ HangTo W w' t wd (TreeMath.hang dC T c) bs ms x) := by
  have hfT : f < T.length := (List.getElem?_eq_some_iff.1 hnd).1
  have hlm : f < ms.length := by rw [h.lm]; exact hfT
  have htl : t < W.heap.size := h.lt (.inl rfl)
  have hbl : b < W.heap.size := h.lt (.inr (.inl (List.mem_of_getElem? hb)))
  have hml : m < W.heap.size := h.lt (.inr (.inr (List.mem_of_getElem? hm)))
  have htn := h.tn (List.mem_of_getElem? hb)
  have htm := h.tm (List.mem_of_getElem? hm)
  have hbm := htn.2 m (List.mem_of_getElem? hm)
  have hnodeW := h.node f b nd _ hnd hb hm
  have hn8 : n ≤ 128 := by have := isW_bd h.wid; have := h.eight; omega
  have hd8 : dC nd.code c ≤ 8192 := Nat.le_trans (dC_le _ _) (by omega)
  have hkT : dep T (f + 1) f ≤ 1099511627776 := by have := h.dep f hfT; have := h.depT; omega
  have hxd : x.dep ≤ 1099511627776 := by have := h.depT; omega
  have hxl : x.live ≤ 1099511627776 := by have := h.all; omega
  obtain ⟨cc, D, hown, hcc, hkd⟩ := (h.kids f m hm).ex
  have HT := Hid.mk h
  generalize hH : W.heap.size = H at *
  -- the two boxes
  obtain ⟨W2, hW2⟩ : ∃ W2, W2 = (W.alloc (.cells #[.pointer (some ⟨b, 0, none⟩), .int .i64 (dC nd.code c : Nat), .int .i64 (dep T (f + 1) f : Nat)] 66)).alloc (.cells #[.string c.1, .bool true, .map none] 73) := ⟨_, rfl⟩
  have bW2 : Below W.heap.size W W2 := by rw [hW2]; exact ((Below.refl _ W).alloc (Nat.le_refl _) _).alloc (by simp) _
  have hbx : W2.heap[H]? = some (.cells #[.pointer (some ⟨b, 0, none⟩), .int .i64 (dC nd.code c : Nat), .int .i64 (dep T (f + 1) f : Nat)] 66 (0, 0)) := by
    rw [hW2, ← hH]
    exact (((Below.refl _ (W.alloc (.cells #[.pointer (some ⟨b, 0, none⟩), .int .i64 (dC nd.code c : Nat), .int .i64 (dep T (f + 1) f : Nat)] 66))).alloc (Nat.le_refl _) _).block _ (by simp)).trans (heap_alloc_new W _)
  have hnb : W2.heap[H + 1]? = some (.cells #[.string c.1, .bool true, .map none] 73 (0, 0)) := by
    have := heap_alloc_new (W.alloc (.cells #[.pointer (some ⟨b, 0, none⟩), .int .i64 (dC nd.code c : Nat), .int .i64 (dep T (f + 1) f : Nat)] 66)) (.cells #[.string c.1, .bool true, .map none] 73)
    rw [hW2, ← hH]
    have e1 : (W.alloc (.cells #[.pointer (some ⟨b, 0, none⟩), .int .i64 (dC nd.code c : Nat), .int .i64 (dep T (f + 1) f : Nat)] 66)).heap.size = W.heap.size + 1 := by simp
    rw [e1] at this
    exact this
  have own2 : W2.drew.ownsMap Tryd.prog 3 ptrE m cc D := map_kept hown (F := fun _ => False) (Stay.drew (Stay.below bW2)) (fun hh => hh)
  have hkey : keyOf Tryd.prog 3 (.int .i64 (dC nd.code c : Nat)) = some (.int .i64 (dC nd.code c : Nat)) := keyOf_int_mk Tryd.underlying3 (wf_e hd8)
  obtain ⟨w5, hrun, own5, gr5⟩ := own2.update law3 Tryd.underlying71 (by unfold maxLen; omega) hkey (ptrE_mk (H + 1))
  have blk : ∀ k, k < W2.heap.size → k ≠ m → w5.heap[k]? = W2.heap[k]? := fun k hk hkm => gr5.block k hk (fun e => hkm (by cases e; rfl))
  have szW2 : W2.heap.size = H + 2 := by rw [hW2, ← hH]; simp
  have bt5 : w5.heap[t]? = W.heap[t]? := (blk t (by omega) (fun e => htm e.symm)).trans (bW2.block t (by omega))
  have bb5 : w5.heap[b]? = W.heap[b]? := (blk b (by omega) hbm).trans (bW2.block b (by omega))
  have bH5 : w5.heap[H]? = _ := (blk H (by omega) (by omega)).trans hbx
  have bn5 : w5.heap[H + 1]? = _ := (blk (H + 1) (by omega) (by omega)).trans hnb
  have tree5 := bt5.trans HT.out.tree
  have stay5 : Stay (fun k => k = t ∨ k = b ∨ (some m : Option Nat) = some k) W w5 := ⟨gr5.os.trans bW2.os, gr5.tape.trans bW2.tape, gr5.output.trans bW2.output, Nat.le_trans bW2.size gr5.size, fun k hk hn => (blk k (by have := bW2.size; omega) (fun e => hn (.inr (.inr (by rw [e]))))).trans (bW2.block k hk)⟩
  have HF := Hid.mk (fun (z : Nat) (hz : z = max x.dep (dep T (f + 1) f + 1)) => show HangTo W (((w5.setCell ⟨t, 2, none⟩ (.int .i64 ((x.live : Int) + 1))).setCell ⟨t, 4, none⟩ (.int .i64 z)).drew) t wd (TreeMath.hang dC T c) bs ms x from by
    obtain ⟨ft, fs⟩ := fin_t (y := .int .i64 ((x.live : Int) + 1)) (z := .int .i64 z) tree5
    have sF : Stay (fun k => k = t ∨ k = b ∨ (some m : Option Nat) = some k) W (((w5.setCell ⟨t, 2, none⟩ (.int .i64 ((x.live : Int) + 1))).setCell ⟨t, 4, none⟩ (.int .i64 z)).drew) := stay5.andThen fs (fun i _ hi => .inl hi)
    have keepF : ∀ k, k < w5.heap.size → k ≠ t → (((w5.setCell ⟨t, 2, none⟩ (.int .i64 ((x.live : Int) + 1))).setCell ⟨t, 4, none⟩ (.int .i64 z)).drew).heap[k]? = w5.heap[k]? := fun k hk hkt => fs.block k hk hkt
    have sz5 : H + 2 ≤ w5.heap.size := by have := gr5.size; have e : W2.drew.heap.size = W2.heap.size := rfl; omega
    have hr0 : ptr bs (if T.length = 0 then none else some 0) = ptr (bs ++ [H + 1]) (some 0) := by
      rw [if_neg (by omega)]
      show Value.pointer (some ⟨bs.getD 0 0, 0, none⟩) = Value.pointer (some ⟨(bs ++ [H + 1]).getD 0 0, 0, none⟩)
      rw [getD_old (by rw [HT.out.lb]; omega)]
    have tr := HT.out.hang1 (W' := ((w5.setCell ⟨t, 2, none⟩ (.int .i64 ((x.live : Int) + 1))).setCell ⟨t, 4, none⟩ (.int .i64 z)).drew) c hc hf hnd hch hb hm (H + 1) m sF (by omega) (.inl rfl)
      (by rw [ft, ← hr0, hz]; simp) ((keepF b (by omega) htn.1).trans (bb5.trans hnodeW)) ((keepF (H + 1) (by omega) (by omega)).trans bn5)
      ⟨cc + 1, D.put (.int .i64 (dC nd.code c : Nat)) (.lit (.int .i64 (H + 1 : Nat))), map_kept own5 fs (fun e => htm e), by omega, fun z zd => by
        by_cases e1 : z = (dC nd.code c : Nat)
        · subst e1
          rw [if_pos rfl, atKey_put_same hown.isMap (by trivial)]
        · rw [if_neg e1, atKey_put_other (by intro hh; injection hh with _ hh; exact e1 hh), hkd z zd]⟩ hsm
    refine ⟨⟨_, _, _, tr, rfl, rfl, rfl, fun k hk => ?_⟩, sF.mono (fun k _ hk => ?_)⟩
    · rcases hk with hk | hk | hk
      · exact .inl (.inl hk)
      · rcases List.mem_append.1 hk with hk | hk
        · exact .inl (.inr (.inl hk))
        · simp at hk; right; omega
      · rcases List.mem_append.1 hk with hk | hk
        · rcases List.mem_or_eq_of_mem_set hk with hk | hk
          · exact .inl (.inr (.inr hk))
          · have : k = m := by simpa using hk
            subst this
            exact .inl (.inr (.inr (List.mem_of_getElem? hm)))
        · simp at hk
    · rcases hk with hk | hk | hk
      · exact .inl hk
      · rw [hk]; exact .inr (.inl (List.mem_of_getElem? hb))
      · have : m = k := by simpa using hk
        rw [← this]; exact .inr (.inr (List.mem_of_getElem? hm)))
  have q0 : W2.cell? ⟨H, 0, none⟩ = some (.pointer (some ⟨b, 0, none⟩)) := by unfold World.cell?; rw [hbx]; rfl
  have q1 : W2.cell? ⟨H, 1, none⟩ = some (.int .i64 (dC nd.code c : Nat)) := by unfold World.cell?; rw [hbx]; rfl
  have q3 : W2.cell? ⟨b, 2, none⟩ = some (.map (some m)) := by unfold World.cell?; rw [bW2.block b (by omega), hnodeW]; rfl
  have p0 : w5.cell? ⟨H, 0, none⟩ = some (.pointer (some ⟨b, 0, none⟩)) := by unfold World.cell?; rw [bH5]; rfl
  have p1 : w5.cell? ⟨H, 1, none⟩ = some (.int .i64 (dC nd.code c : Nat)) := by unfold World.cell?; rw [bH5]; rfl
  have p3 : w5.cell? ⟨b, 2, none⟩ = some (.map (some m)) := by unfold World.cell?; rw [bb5, hnodeW]; rfl
  have p2 : w5.cell? ⟨H, 2, none⟩ = some (.int .i64 (dep T (f + 1) f : Nat)) := by unfold World.cell?; rw [bH5]; rfl
  have u2 : w5.cell? ⟨t, 2, none⟩ = some (.int .i64 x.live) := by unfold World.cell?; rw [tree5]; rfl
  have u4 : w5.cell? ⟨t, 4, none⟩ = some (.int .i64 x.dep) := by unfold World.cell?; rw [tree5]; rfl
  have uf : ∀ j, w5.frozen? ⟨t, j, none⟩ = false := fun j => by unfold World.frozen?; rw [tree5]; simp
  have w0 : W.cell? ⟨b, 2, none⟩ = some (.map (some m)) := by unfold World.cell?; rw [hnodeW]; rfl
  have hne : t ≠ H := by omega
  have hne' : H ≠ t := by omega
  have HW2 := Hid.mk hW2
  have hmn := fun w => map_some w m
  generalize hk : dep T (f + 1) f = k at *
  generalize hdd : dC nd.code c = dd at *
  clear hk hdd hown hkd own2 own5 gr5 blk bt5 bb5 bH5 bn5 tree5 stay5 hbx hnb bW2 hnodeW htn hc hf hnd hch hb hm hfT hlm h hkey szW2 hW2
  go_enter Tryd.func36, Tryd.ntmps36
  go_wp2_with fail
  rw [← HW2.out]
  clear HW2 w0 hH hmn
  refine wp_region_held_drew (S := fun w' => w'.cell? ⟨H, 0, none⟩ = some (.pointer (some ⟨b, 0, none⟩)) ∧ w'.cell? ⟨H, 1, none⟩ = some (.int .i64 (dd : Nat)) ∧ w'.cell? ⟨b, 2, none⟩ = some (.map (some m))) (by kernel_rfl) ?_ (fun hHeld => ?_)
  · exact ⟨q0, q1, q3⟩
  refine wpAnyH_take (i := 0) (oi := { dst := some 10, op := Op.fieldAddr 66 (Operand.tmp 4) 0, type := 0, pos := "node.go:65", after := #[], guard := none }) (v := ?vm0) rfl (by kernel_rfl) (by kernel_rfl) (by kernel_rfl) (fun _ _ _ h => h) (Or.inl ⟨by rfl, ?hm0⟩) (by assumption) ?rm0
  case hm0 => (intro w0 hSw; (try dsimp only at hSw); go_simp; try (with_reducible rfl))
  simp only [Act.put, List.setIfInBounds_toArray, List.set_cons_zero, List.set_cons_succ]
  refine wpAnyH_take (i := 1) (oi := { dst := some 11, op := Op.load 62 (Operand.tmp 10), type := 62, pos := "node.go:65", after := #[{ on := 0, ground := Ground.data }], guard := none }) (v := ?vm1) rfl (by kernel_rfl) (by kernel_rfl) (by kernel_rfl) (fun _ _ _ h => h) (Or.inl ⟨by rfl, ?hm1⟩) (by assumption) ?rm1
  case hm1 => (intro w0 hSw; (try dsimp only at hSw); go_simp; try (with_reducible rfl))
  simp only [Act.put, List.setIfInBounds_toArray, List.set_cons_zero, List.set_cons_succ]
  refine wpAnyH_take (i := 2) (oi := { dst := some 12, op := Op.nilCheck (Operand.tmp 11), type := 0, pos := "node.go:65", after := #[{ on := 1, ground := Ground.data }], guard := none }) (v := ?vm2) rfl (by kernel_rfl) (by kernel_rfl) (by kernel_rfl) (fun _ _ _ h => h) (Or.inl ⟨by rfl, ?hm2⟩) (by assumption) ?rm2
  case hm2 => (intro w0 hSw; (try dsimp only at hSw); go_simp; try (with_reducible rfl))
  simp only [Act.put, List.setIfInBounds_toArray, List.set_cons_zero, List.set_cons_succ]
  refine wpAnyH_take (i := 3) (oi := { dst := some 13, op := Op.fieldAddr 73 (Operand.tmp 12) 2, type := 0, pos := "node.go:65", after := #[{ on := 2, ground := Ground.data }], guard := none }) (v := ?vm3) rfl (by kernel_rfl) (by kernel_rfl) (by kernel_rfl) (fun _ _ _ h => h) (Or.inl ⟨by rfl, ?hm3⟩) (by assumption) ?rm3
  case hm3 => (intro w0 hSw; (try dsimp only at hSw); go_simp; try (with_reducible rfl))
  simp only [Act.put, List.setIfInBounds_toArray, List.set_cons_zero, List.set_cons_succ]
  refine wpAnyH_take (i := 4) (oi := { dst := some 14, op := Op.load 71 (Operand.tmp 13), type := 71, pos := "node.go:65", after := #[{ on := 3, ground := Ground.data }], guard := none }) (v := ?vm4) rfl (by kernel_rfl) (by kernel_rfl) (by kernel_rfl) (fun _ _ _ h => h) (Or.inl ⟨by rfl, ?hm4⟩) (by assumption) ?rm4
  case hm4 => (intro w0 hSw; (try dsimp only at hSw); go_simp; try (with_reducible rfl))
  simp only [Act.put, List.setIfInBounds_toArray, List.set_cons_zero, List.set_cons_succ]
  refine wpAnyH_take (i := 5) (oi := { dst := some 15, op := Op.fieldAddr 66 (Operand.tmp 4) 1, type := 0, pos := "node.go:65", after := #[], guard := none }) (v := ?vm5) rfl (by kernel_rfl) (by kernel_rfl) (by kernel_rfl) (fun _ _ _ h => h) (Or.inl ⟨by rfl, ?hm5⟩) (by assumption) ?rm5
  case hm5 => (intro w0 hSw; (try dsimp only at hSw); go_simp; try (with_reducible rfl))
  simp only [Act.put, List.setIfInBounds_toArray, List.set_cons_zero, List.set_cons_succ]
  refine wpAnyH_take (i := 6) (oi := { dst := some 16, op := Op.load 3 (Operand.tmp 15), type := 3, pos := "node.go:65", after := #[{ on := 5, ground := Ground.data }], guard := none }) (v := ?vm6) rfl (by kernel_rfl) (by kernel_rfl) (by kernel_rfl) (fun _ _ _ h => h) (Or.inl ⟨by rfl, ?hm6⟩) (by assumption) ?rm6
  case hm6 => (intro w0 hSw; (try dsimp only at hSw); go_simp; try (with_reducible rfl))
  simp only [Act.put, List.setIfInBounds_toArray, List.set_cons_zero, List.set_cons_succ]
  refine wpAnyH_take (i := 7) (oi := { dst := some 17, op := Op.move (Operand.tmp 6), type := 62, pos := "node.go:65", after := #[], guard := none }) (v := ?vm7) rfl (by kernel_rfl) (by kernel_rfl) (by kernel_rfl) (fun _ _ _ h => h) (Or.inl ⟨by rfl, ?hm7⟩) (by assumption) ?rm7
  case hm7 => (intro w0 hSw; (try dsimp only at hSw); go_simp; try (with_reducible rfl))
  simp only [Act.put, List.setIfInBounds_toArray, List.set_cons_zero, List.set_cons_succ]
  refine wpAnyH_ready (rs := [8]) (by kernel_rfl) (by simp) ?_
  refine AllReadyH.cons rfl (fun K0 hK0 => ?_) AllReadyH.nil
  go_simp
  refine hK0.out _ _ ?_ (fun hHeld => ?_)
  · exact ⟨p0, p1, p3⟩
  clear hK0 K0
  refine wpAnyH_done (by kernel_rfl) ?_ _
  have s2 : (w5.setCell ⟨t, 2, none⟩ (.int .i64 ((x.live : Int) + 1))).cell? ⟨H, 2, none⟩ = some (.int .i64 (k : Nat)) := (World.cell?_setCell_other _ _ _ _ (by intro e; (simp at e) <;> omega)).trans p2
  have s3 : ∀ z, ((w5.setCell ⟨t, 2, none⟩ (.int .i64 ((x.live : Int) + 1))).drew.setCell ⟨t, 4, none⟩ z).cell? ⟨H, 2, none⟩ = some (.int .i64 (k : Nat)) := fun z => (World.cell?_setCell_other _ _ _ _ (by intro e; (simp at e) <;> omega)).trans s2
  clear q0 q1 q3 p0 p1 p3 hrun hHeld
  have hwk : IntKind.i64.wrap ((k : Int) + 1) = (k : Int) + 1 := by rw [IntKind.wrap_i64]; omega
  go_wp2_with fail
  refine wp_region_held_drew (S := fun w' => w'.cell? ⟨H, 2, none⟩ = some (.int .i64 (k : Nat))) (by kernel_rfl) ?_ (fun hHeld => ?_)
  · exact s2
  refine wpAnyH_take (i := 0) (oi := { dst := some 49, op := Op.move (Operand.tmp 0), type := 24, pos := "node.go:68", after := #[], guard := none }) (v := ?vx0) rfl (by kernel_rfl) (by kernel_rfl) (by kernel_rfl) (fun _ _ _ h => h) (Or.inl ⟨by rfl, ?hx0⟩) (by assumption) ?rx0
  case hx0 => (intro w0 hSw; (try dsimp only at hSw); go_simp; try (with_reducible rfl))
  simp only [Act.put, List.setIfInBounds_toArray, List.set_cons_zero, List.set_cons_succ]
  refine wpAnyH_take (i := 1) (oi := { dst := some 50, op := Op.move (Operand.tmp 0), type := 24, pos := "node.go:68", after := #[], guard := none }) (v := ?vx1) rfl (by kernel_rfl) (by kernel_rfl) (by kernel_rfl) (fun _ _ _ h => h) (Or.inl ⟨by rfl, ?hx1⟩) (by assumption) ?rx1
  case hx1 => (intro w0 hSw; (try dsimp only at hSw); go_simp; try (with_reducible rfl))
  simp only [Act.put, List.setIfInBounds_toArray, List.set_cons_zero, List.set_cons_succ]
  refine wpAnyH_take (i := 2) (oi := { dst := some 51, op := Op.nilCheck (Operand.tmp 50), type := 0, pos := "node.go:68", after := #[{ on := 1, ground := Ground.data }], guard := none }) (v := ?vx2) rfl (by kernel_rfl) (by kernel_rfl) (by kernel_rfl) (fun _ _ _ h => h) (Or.inl ⟨by rfl, ?hx2⟩) (by assumption) ?rx2
  case hx2 => (intro w0 hSw; (try dsimp only at hSw); go_simp; try (with_reducible rfl))
  simp only [Act.put, List.setIfInBounds_toArray, List.set_cons_zero, List.set_cons_succ]
  refine wpAnyH_take (i := 3) (oi := { dst := some 52, op := Op.fieldAddr 64 (Operand.tmp 51) 4, type := 0, pos := "node.go:68", after := #[{ on := 2, ground := Ground.data }], guard := none }) (v := ?vx3) rfl (by kernel_rfl) (by kernel_rfl) (by kernel_rfl) (fun _ _ _ h => h) (Or.inl ⟨by rfl, ?hx3⟩) (by assumption) ?rx3
  case hx3 => (intro w0 hSw; (try dsimp only at hSw); go_simp; try (with_reducible rfl))
  simp only [Act.put, List.setIfInBounds_toArray, List.set_cons_zero, List.set_cons_succ]
  refine wpAnyH_take (i := 5) (oi := { dst := some 54, op := Op.fieldAddr 66 (Operand.tmp 4) 2, type := 0, pos := "node.go:68", after := #[], guard := none }) (v := ?vx5) rfl (by kernel_rfl) (by kernel_rfl) (by kernel_rfl) (fun _ _ _ h => h) (Or.inl ⟨by rfl, ?hx5⟩) (by assumption) ?rx5
  case hx5 => (intro w0 hSw; (try dsimp only at hSw); go_simp; try (with_reducible rfl))
  simp only [Act.put, List.setIfInBounds_toArray, List.set_cons_zero, List.set_cons_succ]
  refine wpAnyH_take (i := 6) (oi := { dst := some 55, op := Op.load 3 (Operand.tmp 54), type := 3, pos := "node.go:68", after := #[{ on := 5, ground := Ground.data }], guard := none }) (v := ?vx6) rfl (by kernel_rfl) (by kernel_rfl) (by kernel_rfl) (fun _ _ _ h => h) (Or.inl ⟨by rfl, ?hx6⟩) (by assumption) ?rx6
  case hx6 => (intro w0 hSw; (try dsimp only at hSw); go_simp; try (with_reducible rfl))
  simp only [Act.put, List.setIfInBounds_toArray, List.set_cons_zero, List.set_cons_succ]
  refine wpAnyH_take (i := 7) (oi := { dst := some 56, op := Op.binOp BinOp.add 3 (Operand.tmp 55) (Operand.const (Value.int IntKind.i64 1)) 3, type := 3, pos := "node.go:68", after := #[{ on := 6, ground := Ground.data }], guard := none }) (v := ?vx7) rfl (by kernel_rfl) (by kernel_rfl) (by kernel_rfl) (fun _ _ _ h => h) (Or.inl ⟨by rfl, ?hx7⟩) (by assumption) ?rx7
  case hx7 => (intro w0 hSw; (try dsimp only at hSw); go_simp; try (with_reducible rfl))
  simp only [Act.put, List.setIfInBounds_toArray, List.set_cons_zero, List.set_cons_succ]
  refine wpAnyH_ready (rs := [4]) (by kernel_rfl) (by simp) ?_
  refine AllReadyH.cons rfl (fun K0 hK0 => ?_) AllReadyH.nil
  go_simp
  refine hK0.out _ _ ?_ (fun hHeld => ?_)
  · exact s2
  clear hK0 K0
  refine wpAnyH_take (i := 8) (oi := { dst := some 57, op := Op.call { callee := Callee.builtin Builtin.max, args := #[Operand.tmp 53, Operand.tmp 56], argTypes := #[3, 3] }, type := 3, pos := "node.go:68", after := #[{ on := 4, ground := Ground.data }, { on := 7, ground := Ground.data }], guard := none }) (v := ?vx8) rfl (by kernel_rfl) (by kernel_rfl) (by kernel_rfl) (fun _ _ _ h => h) (Or.inl ⟨by rfl, ?hx8⟩) (by assumption) ?rx8
  case hx8 => (intro w0 hSw; (try dsimp only at hSw); go_simp; try (with_reducible rfl))
  simp only [Act.put, List.setIfInBounds_toArray, List.set_cons_zero, List.set_cons_succ]
  refine wpAnyH_take (i := 9) (oi := { dst := some 58, op := Op.nilCheck (Operand.tmp 49), type := 0, pos := "node.go:68", after := #[{ on := 0, ground := Ground.data }, { on := 0, ground := Ground.phase }, { on := 1, ground := Ground.phase }, { on := 2, ground := Ground.phase }, { on := 3, ground := Ground.phase }, { on := 4, ground := Ground.phase }, { on := 5, ground := Ground.phase }, { on := 6, ground := Ground.phase }, { on := 7, ground := Ground.phase }, { on := 8, ground := Ground.phase }], guard := none }) (v := ?vx9) rfl (by kernel_rfl) (by kernel_rfl) (by kernel_rfl) (fun _ _ _ h => h) (Or.inl ⟨by rfl, ?hx9⟩) (by assumption) ?rx9
  case hx9 => (intro w0 hSw; (try dsimp only at hSw); go_simp; try (with_reducible rfl))
  simp only [Act.put, List.setIfInBounds_toArray, List.set_cons_zero, List.set_cons_succ]
  refine wpAnyH_take (i := 10) (oi := { dst := some 59, op := Op.fieldAddr 64 (Operand.tmp 58) 4, type := 0, pos := "node.go:68", after := #[{ on := 9, ground := Ground.data }, { on := 0, ground := Ground.phase }, { on := 1, ground := Ground.phase }, { on := 2, ground := Ground.phase }, { on := 3, ground := Ground.phase }, { on := 4, ground := Ground.phase }, { on := 5, ground := Ground.phase }, { on := 6, ground := Ground.phase }, { on := 7, ground := Ground.phase }, { on := 8, ground := Ground.phase }], guard := none }) (v := ?vx10) rfl (by kernel_rfl) (by kernel_rfl) (by kernel_rfl) (fun _ _ _ h => h) (Or.inl ⟨by rfl, ?hx10⟩) (by assumption) ?rx10
  case hx10 => (intro w0 hSw; (try dsimp only at hSw); go_simp; try (with_reducible rfl))
  simp only [Act.put, List.setIfInBounds_toArray, List.set_cons_zero, List.set_cons_succ]
  refine wpAnyH_ready (rs := [11]) (by kernel_rfl) (by simp) ?_
  refine AllReadyH.cons rfl (fun K0 hK0 => ?_) AllReadyH.nil
  go_simp
  refine hK0.out _ _ ?_ (fun hHeld => ?_)
  · exact s3 _
  clear hK0 K0
  refine wpAnyH_done (by kernel_rfl) ?_ _
  go_wp2
  all_goals
    go_end0
    first
      | exact ⟨rfl, HF.out x.dep (by omega)⟩
      | (have h9 := HF.out (k + 1) (by omega)
         rw [show (((k + 1 : Nat)) : Int) = (k : Int) + 1 by omega] at h9
         exact ⟨rfl, h9⟩)
set_option maxHeartbeats 4000000 in
set_option maxRecDepth 100000 in
theorem hang_new {n t wd : Nat} {T : List (Nd (Cd n))} {bs : List Nat} {ms : List (Option Nat)} {x : Num} (c : Cd n) (W : World) (h : TR W t wd T bs ms x) (hc : ∀ (j : Nat) nd, T[j]? = some nd → nd.code ≠ c) (hsm : T.length < 1099511627776)
    {f : Nat} (hf : f = reach dC T c T.length 0) {nd : Nd (Cd n)} (hnd : T[f]? = some nd) (hch : child T f (dC nd.code c) = none) {b : Nat} (hb : bs[f]? = some b) (hm : ms[f]? = some none) :
    Calls Tryd.prog 36 #[.pointer (some ⟨t, 0, none⟩), .agg #[.pointer (some ⟨b, 0, none⟩), .int .i64 (dC nd.code c : Nat), .int .i64 (dep T (f + 1) f : Nat)], .string c.1] W (fun r w' => r = .returned (.tuple #[]) ∧ HangTo W w' t wd (TreeMath.hang dC T c) bs ms x) := by
  have hfT : f < T.length := (List.getElem?_eq_some_iff.1 hnd).1
  have hlm : f < ms.length := by rw [h.lm]; exact hfT
  have htl : t < W.heap.size := h.lt (.inl rfl)
  have hbl : b < W.heap.size := h.lt (.inr (.inl (List.mem_of_getElem? hb)))
  have htn := h.tn (List.mem_of_getElem? hb)
  have hnodeW := h.node f b nd _ hnd hb hm
  have hn8 : n ≤ 128 := by have := isW_bd h.wid; have := h.eight; omega
  have hd8 : dC nd.code c ≤ 8192 := Nat.le_trans (dC_le _ _) (by omega)
  have hkT : dep T (f + 1) f ≤ 1099511627776 := by have := h.dep f hfT; have := h.depT; omega
  have hxd : x.dep ≤ 1099511627776 := by have := h.depT; omega
  have hxl : x.live ≤ 1099511627776 := by have := h.all; omega
  have hkd := h.bare f hm
  have HT := Hid.mk h
  generalize hH : W.heap.size = H at *
  -- the two boxes
  obtain ⟨W2, hW2⟩ : ∃ W2, W2 = (W.alloc (.cells #[.pointer (some ⟨b, 0, none⟩), .int .i64 (dC nd.code c : Nat), .int .i64 (dep T (f + 1) f : Nat)] 66)).alloc (.cells #[.string c.1, .bool true, .map none] 73) := ⟨_, rfl⟩
  have bW2 : Below W.heap.size W W2 := by rw [hW2]; exact ((Below.refl _ W).alloc (Nat.le_refl _) _).alloc (by simp) _
  have hbx : W2.heap[H]? = some (.cells #[.pointer (some ⟨b, 0, none⟩), .int .i64 (dC nd.code c : Nat), .int .i64 (dep T (f + 1) f : Nat)] 66 (0, 0)) := by
    rw [hW2, ← hH]
    exact (((Below.refl _ (W.alloc (.cells #[.pointer (some ⟨b, 0, none⟩), .int .i64 (dC nd.code c : Nat), .int .i64 (dep T (f + 1) f : Nat)] 66))).alloc (Nat.le_refl _) _).block _ (by simp)).trans (heap_alloc_new W _)
  have hnb : W2.heap[H + 1]? = some (.cells #[.string c.1, .bool true, .map none] 73 (0, 0)) := by
    have := heap_alloc_new (W.alloc (.cells #[.pointer (some ⟨b, 0, none⟩), .int .i64 (dC nd.code c : Nat), .int .i64 (dep T (f + 1) f : Nat)] 66)) (.cells #[.string c.1, .bool true, .map none] 73)
    rw [hW2, ← hH]
    have e1 : (W.alloc (.cells #[.pointer (some ⟨b, 0, none⟩), .int .i64 (dC nd.code c : Nat), .int .i64 (dep T (f + 1) f : Nat)] 66)).heap.size = W.heap.size + 1 := by simp
    rw [e1] at this
    exact this
  have szW2 : W2.heap.size = H + 2 := by rw [hW2, ← hH]; simp
  have own2 : (W2.alloc (.map #[] 0)).ownsMap Tryd.prog 3 ptrE (H + 2) 0 (.map []) := by rw [← szW2]; exact World.ownsMap_made W2 Tryd.prog 3 ptrE
  have hkey : keyOf Tryd.prog 3 (.int .i64 (dC nd.code c : Nat)) = some (.int .i64 (dC nd.code c : Nat)) := keyOf_int_mk Tryd.underlying3 (wf_e hd8)
  obtain ⟨w4, hrun, own4, gr4⟩ := own2.update law3 Tryd.underlying71 (by unfold maxLen; omega) hkey (ptrE_mk (H + 1))
  have szm : (W2.alloc (.map #[] 0)).heap.size = H + 3 := by simp [szW2]
  have bm : Below W2.heap.size W2 (W2.alloc (.map #[] 0)) := (Below.refl _ W2).alloc (Nat.le_refl _) _
  have blk : ∀ k, k < H + 2 → w4.heap[k]? = W2.heap[k]? := fun k hk => (gr4.block k (by omega) (fun e => by cases e; omega)).trans (bm.block k (by omega))
  have bt4 : w4.heap[t]? = W.heap[t]? := (blk t (by omega)).trans (bW2.block t (by omega))
  have bb4 : w4.heap[b]? = W.heap[b]? := (blk b (by omega)).trans (bW2.block b (by omega))
  obtain ⟨w5, hw5⟩ : ∃ w5, w5 = w4.setCell ⟨b, 2, none⟩ (.map (some (H + 2))) := ⟨_, rfl⟩
  have s45 : Stay (fun k => k = b) w4 w5 := by rw [hw5]; refine Stay.setCell (Stay.refl _ w4) (p := ⟨b, 2, none⟩) (fun _ => ?_) _; rfl
  have sz4 : H + 3 ≤ w4.heap.size := by have := gr4.size; omega
  have tree5 : w5.heap[t]? = _ := (s45.block t (by omega) (fun e => htn.1 e.symm)).trans (bt4.trans HT.out.tree)
  have node5 : w5.heap[b]? = some (.cells #[.string nd.code.1, .bool nd.live, .map (some (H + 2))] 73 (0, 0)) := by rw [hw5]; exact heap_setCell_same w4 b 2 _ _ _ (bb4.trans hnodeW)
  have bH5 : w5.heap[H]? = _ := (s45.block H (by omega) (by omega)).trans ((blk H (by omega)).trans hbx)
  have bn5 : w5.heap[H + 1]? = _ := (s45.block (H + 1) (by omega) (by omega)).trans ((blk (H + 1) (by omega)).trans hnb)
  have own5 := map_kept own4 s45 (show ¬ (H + 2 = b) by omega)
  have sz5 : H + 3 ≤ w5.heap.size := by have := s45.size; omega
  have stay5 : Stay (fun k => k = t ∨ k = b ∨ (none : Option Nat) = some k) W w5 := by
    have s4 : Stay (fun k => k = t ∨ k = b ∨ (none : Option Nat) = some k) W w4 := ⟨gr4.os.trans (bm.os.trans bW2.os), gr4.tape.trans (bm.tape.trans bW2.tape), gr4.output.trans (bm.output.trans bW2.output), by omega, fun k hk hn => (blk k (by omega)).trans (bW2.block k (by omega))⟩
    exact s4.andThen s45 (fun i _ hi => .inr (.inl hi))
  have HF := Hid.mk (fun (z : Nat) (hz : z = max x.dep (dep T (f + 1) f + 1)) => show HangTo W (((w5.setCell ⟨t, 2, none⟩ (.int .i64 ((x.live : Int) + 1))).setCell ⟨t, 4, none⟩ (.int .i64 z)).drew) t wd (TreeMath.hang dC T c) bs ms x from by
    obtain ⟨ft, fs⟩ := fin_t (y := .int .i64 ((x.live : Int) + 1)) (z := .int .i64 z) tree5
    have sF : Stay (fun k => k = t ∨ k = b ∨ (none : Option Nat) = some k) W (((w5.setCell ⟨t, 2, none⟩ (.int .i64 ((x.live : Int) + 1))).setCell ⟨t, 4, none⟩ (.int .i64 z)).drew) := stay5.andThen fs (fun i _ hi => .inl hi)
    have keepF : ∀ k, k < w5.heap.size → k ≠ t → (((w5.setCell ⟨t, 2, none⟩ (.int .i64 ((x.live : Int) + 1))).setCell ⟨t, 4, none⟩ (.int .i64 z)).drew).heap[k]? = w5.heap[k]? := fun k hk hkt => fs.block k hk hkt
    have hr0 : ptr bs (if T.length = 0 then none else some 0) = ptr (bs ++ [H + 1]) (some 0) := by
      rw [if_neg (by omega)]
      show Value.pointer (some ⟨bs.getD 0 0, 0, none⟩) = Value.pointer (some ⟨(bs ++ [H + 1]).getD 0 0, 0, none⟩)
      rw [getD_old (by rw [HT.out.lb]; omega)]
    have tr := HT.out.hang1 (W' := ((w5.setCell ⟨t, 2, none⟩ (.int .i64 ((x.live : Int) + 1))).setCell ⟨t, 4, none⟩ (.int .i64 z)).drew) c hc hf hnd hch hb hm (H + 1) (H + 2) sF (by omega) (.inr ⟨rfl, by omega⟩)
      (by rw [ft, ← hr0, hz]; simp) ((keepF b (by omega) htn.1).trans node5) ((keepF (H + 1) (by omega) (by omega)).trans bn5)
      ⟨1, (DataW.map []).put (.int .i64 (dC nd.code c : Nat)) (.lit (.int .i64 (H + 1 : Nat))), map_kept own5 fs (show ¬ (H + 2 = t) by omega), by omega, fun z zd => by
        by_cases e1 : z = (dC nd.code c : Nat)
        · subst e1
          rw [if_pos rfl, atKey_put_same ⟨_, rfl⟩ (by trivial)]
        · rw [if_neg e1, atKey_put_other (by intro hh; injection hh with _ hh; exact e1 hh), hkd z.toNat]
          by_cases hz : 0 ≤ z
          · rw [if_pos hz]; rfl
          · rw [if_neg hz]; rfl⟩ hsm
    refine ⟨⟨_, _, _, tr, rfl, rfl, rfl, fun k hk => ?_⟩, sF.mono (fun k _ hk => ?_)⟩
    · rcases hk with hk | hk | hk
      · exact .inl (.inl hk)
      · rcases List.mem_append.1 hk with hk | hk
        · exact .inl (.inr (.inl hk))
        · simp at hk; right; omega
      · rcases List.mem_append.1 hk with hk | hk
        · rcases List.mem_or_eq_of_mem_set hk with hk | hk
          · exact .inl (.inr (.inr hk))
          · have : k = H + 2 := by simpa using hk
            right; omega
        · simp at hk
    · rcases hk with hk | hk | hk
      · exact .inl hk
      · rw [hk]; exact .inr (.inl (List.mem_of_getElem? hb))
      · cases hk)
  have p2 : w5.cell? ⟨H, 2, none⟩ = some (.int .i64 (dep T (f + 1) f : Nat)) := by unfold World.cell?; rw [bH5]; rfl
  have u2 : w5.cell? ⟨t, 2, none⟩ = some (.int .i64 x.live) := by unfold World.cell?; rw [tree5]; rfl
  have u4 : w5.cell? ⟨t, 4, none⟩ = some (.int .i64 x.dep) := by unfold World.cell?; rw [tree5]; rfl
  have uf : ∀ j, w5.frozen? ⟨t, j, none⟩ = false := fun j => by unfold World.frozen?; rw [tree5]; simp
  have w0 : W.cell? ⟨b, 2, none⟩ = some (.map none) := by unfold World.cell?; rw [hnodeW]; rfl
  have hne : t ≠ H := by omega
  have hne' : H ≠ t := by omega
  have HW2 := Hid.mk hW2
  have hmn := map_none
  have wf0 : W.frozen? ⟨b, 2, none⟩ = false := by unfold World.frozen?; rw [hnodeW]; simp
  have w4c : w4.cell? ⟨b, 2, none⟩ = some (.map none) := by unfold World.cell?; rw [bb4, hnodeW]; rfl
  have x2 : w4.cell? ⟨t, 2, none⟩ = some (.int .i64 x.live) := by unfold World.cell?; rw [bt4, HT.out.tree]; rfl
  have x4 : ∀ j, w4.frozen? ⟨t, j, none⟩ = false := fun j => by unfold World.frozen?; rw [bt4, HT.out.tree]; simp
  have hbt : b ≠ t := htn.1
  have htb : t ≠ b := fun e => htn.1 e.symm
  have w4f : w4.frozen? ⟨b, 2, none⟩ = false := by unfold World.frozen?; rw [bb4, hnodeW]; simp
  have hmm := @run_makeMap Tryd.prog
  generalize hk : dep T (f + 1) f = k at *
  generalize hdd : dC nd.code c = dd at *
  have HW5 := Hid.mk hw5
  rw [hW2] at hrun
  clear hk hdd own2 own4 own5 gr4 bm blk bt4 bb4 bH5 bn5 tree5 node5 stay5 hbx hnb bW2 hnodeW htn hc hf hnd hch hb hm hfT hlm h hkey szW2 hW2 hw5 s45 HW2 szm hkd
  go_enter Tryd.func36, Tryd.ntmps36
  go_wp2_with fail
  rw [← HW5.out]
  have s2 : (w5.setCell ⟨t, 2, none⟩ (.int .i64 ((x.live : Int) + 1))).cell? ⟨H, 2, none⟩ = some (.int .i64 (k : Nat)) := (World.cell?_setCell_other _ _ _ _ (by intro e; (simp at e) <;> omega)).trans p2
  have s3 : ∀ z, ((w5.setCell ⟨t, 2, none⟩ (.int .i64 ((x.live : Int) + 1))).drew.setCell ⟨t, 4, none⟩ z).cell? ⟨H, 2, none⟩ = some (.int .i64 (k : Nat)) := fun z => (World.cell?_setCell_other _ _ _ _ (by intro e; (simp at e) <;> omega)).trans s2
  clear hrun w4c w4f w0 wf0 hmn hmm HW5 x2 x4
  have hwk : IntKind.i64.wrap ((k : Int) + 1) = (k : Int) + 1 := by rw [IntKind.wrap_i64]; omega
  refine wp_region_held_drew (S := fun w' => w'.cell? ⟨H, 2, none⟩ = some (.int .i64 (k : Nat))) (by kernel_rfl) ?_ (fun hHeld => ?_)
  · exact s2
  refine wpAnyH_take (i := 0) (oi := { dst := some 49, op := Op.move (Operand.tmp 0), type := 24, pos := "node.go:68", after := #[], guard := none }) (v := ?vy0) rfl (by kernel_rfl) (by kernel_rfl) (by kernel_rfl) (fun _ _ _ h => h) (Or.inl ⟨by rfl, ?hy0⟩) (by assumption) ?ry0
  case hy0 => (intro w0 hSw; (try dsimp only at hSw); go_simp; try (with_reducible rfl))
  simp only [Act.put, List.setIfInBounds_toArray, List.set_cons_zero, List.set_cons_succ]
  refine wpAnyH_take (i := 1) (oi := { dst := some 50, op := Op.move (Operand.tmp 0), type := 24, pos := "node.go:68", after := #[], guard := none }) (v := ?vy1) rfl (by kernel_rfl) (by kernel_rfl) (by kernel_rfl) (fun _ _ _ h => h) (Or.inl ⟨by rfl, ?hy1⟩) (by assumption) ?ry1
  case hy1 => (intro w0 hSw; (try dsimp only at hSw); go_simp; try (with_reducible rfl))
  simp only [Act.put, List.setIfInBounds_toArray, List.set_cons_zero, List.set_cons_succ]
  refine wpAnyH_take (i := 2) (oi := { dst := some 51, op := Op.nilCheck (Operand.tmp 50), type := 0, pos := "node.go:68", after := #[{ on := 1, ground := Ground.data }], guard := none }) (v := ?vy2) rfl (by kernel_rfl) (by kernel_rfl) (by kernel_rfl) (fun _ _ _ h => h) (Or.inl ⟨by rfl, ?hy2⟩) (by assumption) ?ry2
  case hy2 => (intro w0 hSw; (try dsimp only at hSw); go_simp; try (with_reducible rfl))
  simp only [Act.put, List.setIfInBounds_toArray, List.set_cons_zero, List.set_cons_succ]
  refine wpAnyH_take (i := 3) (oi := { dst := some 52, op := Op.fieldAddr 64 (Operand.tmp 51) 4, type := 0, pos := "node.go:68", after := #[{ on := 2, ground := Ground.data }], guard := none }) (v := ?vy3) rfl (by kernel_rfl) (by kernel_rfl) (by kernel_rfl) (fun _ _ _ h => h) (Or.inl ⟨by rfl, ?hy3⟩) (by assumption) ?ry3
  case hy3 => (intro w0 hSw; (try dsimp only at hSw); go_simp; try (with_reducible rfl))
  simp only [Act.put, List.setIfInBounds_toArray, List.set_cons_zero, List.set_cons_succ]
  refine wpAnyH_take (i := 5) (oi := { dst := some 54, op := Op.fieldAddr 66 (Operand.tmp 4) 2, type := 0, pos := "node.go:68", after := #[], guard := none }) (v := ?vy5) rfl (by kernel_rfl) (by kernel_rfl) (by kernel_rfl) (fun _ _ _ h => h) (Or.inl ⟨by rfl, ?hy5⟩) (by assumption) ?ry5
  case hy5 => (intro w0 hSw; (try dsimp only at hSw); go_simp; try (with_reducible rfl))
  simp only [Act.put, List.setIfInBounds_toArray, List.set_cons_zero, List.set_cons_succ]
  refine wpAnyH_take (i := 6) (oi := { dst := some 55, op := Op.load 3 (Operand.tmp 54), type := 3, pos := "node.go:68", after := #[{ on := 5, ground := Ground.data }], guard := none }) (v := ?vy6) rfl (by kernel_rfl) (by kernel_rfl) (by kernel_rfl) (fun _ _ _ h => h) (Or.inl ⟨by rfl, ?hy6⟩) (by assumption) ?ry6
  case hy6 => (intro w0 hSw; (try dsimp only at hSw); go_simp; try (with_reducible rfl))
  simp only [Act.put, List.setIfInBounds_toArray, List.set_cons_zero, List.set_cons_succ]
  refine wpAnyH_take (i := 7) (oi := { dst := some 56, op := Op.binOp BinOp.add 3 (Operand.tmp 55) (Operand.const (Value.int IntKind.i64 1)) 3, type := 3, pos := "node.go:68", after := #[{ on := 6, ground := Ground.data }], guard := none }) (v := ?vy7) rfl (by kernel_rfl) (by kernel_rfl) (by kernel_rfl) (fun _ _ _ h => h) (Or.inl ⟨by rfl, ?hy7⟩) (by assumption) ?ry7
  case hy7 => (intro w0 hSw; (try dsimp only at hSw); go_simp; try (with_reducible rfl))
  simp only [Act.put, List.setIfInBounds_toArray, List.set_cons_zero, List.set_cons_succ]
  refine wpAnyH_ready (rs := [4]) (by kernel_rfl) (by simp) ?_
  refine AllReadyH.cons rfl (fun K0 hK0 => ?_) AllReadyH.nil
  go_simp
  refine hK0.out _ _ ?_ (fun hHeld => ?_)
  · exact s2
  clear hK0 K0
  refine wpAnyH_take (i := 8) (oi := { dst := some 57, op := Op.call { callee := Callee.builtin Builtin.max, args := #[Operand.tmp 53, Operand.tmp 56], argTypes := #[3, 3] }, type := 3, pos := "node.go:68", after := #[{ on := 4, ground := Ground.data }, { on := 7, ground := Ground.data }], guard := none }) (v := ?vy8) rfl (by kernel_rfl) (by kernel_rfl) (by kernel_rfl) (fun _ _ _ h => h) (Or.inl ⟨by rfl, ?hy8⟩) (by assumption) ?ry8
  case hy8 => (intro w0 hSw; (try dsimp only at hSw); go_simp; try (with_reducible rfl))
  simp only [Act.put, List.setIfInBounds_toArray, List.set_cons_zero, List.set_cons_succ]
  refine wpAnyH_take (i := 9) (oi := { dst := some 58, op := Op.nilCheck (Operand.tmp 49), type := 0, pos := "node.go:68", after := #[{ on := 0, ground := Ground.data }, { on := 0, ground := Ground.phase }, { on := 1, ground := Ground.phase }, { on := 2, ground := Ground.phase }, { on := 3, ground := Ground.phase }, { on := 4, ground := Ground.phase }, { on := 5, ground := Ground.phase }, { on := 6, ground := Ground.phase }, { on := 7, ground := Ground.phase }, { on := 8, ground := Ground.phase }], guard := none }) (v := ?vy9) rfl (by kernel_rfl) (by kernel_rfl) (by kernel_rfl) (fun _ _ _ h => h) (Or.inl ⟨by rfl, ?hy9⟩) (by assumption) ?ry9
  case hy9 => (intro w0 hSw; (try dsimp only at hSw); go_simp; try (with_reducible rfl))
  simp only [Act.put, List.setIfInBounds_toArray, List.set_cons_zero, List.set_cons_succ]
  refine wpAnyH_take (i := 10) (oi := { dst := some 59, op := Op.fieldAddr 64 (Operand.tmp 58) 4, type := 0, pos := "node.go:68", after := #[{ on := 9, ground := Ground.data }, { on := 0, ground := Ground.phase }, { on := 1, ground := Ground.phase }, { on := 2, ground := Ground.phase }, { on := 3, ground := Ground.phase }, { on := 4, ground := Ground.phase }, { on := 5, ground := Ground.phase }, { on := 6, ground := Ground.phase }, { on := 7, ground := Ground.phase }, { on := 8, ground := Ground.phase }], guard := none }) (v := ?vy10) rfl (by kernel_rfl) (by kernel_rfl) (by kernel_rfl) (fun _ _ _ h => h) (Or.inl ⟨by rfl, ?hy10⟩) (by assumption) ?ry10
  case hy10 => (intro w0 hSw; (try dsimp only at hSw); go_simp; try (with_reducible rfl))
  simp only [Act.put, List.setIfInBounds_toArray, List.set_cons_zero, List.set_cons_succ]
  refine wpAnyH_ready (rs := [11]) (by kernel_rfl) (by simp) ?_
  refine AllReadyH.cons rfl (fun K0 hK0 => ?_) AllReadyH.nil
  go_simp
  refine hK0.out _ _ ?_ (fun hHeld => ?_)
  · exact s3 _
  clear hK0 K0
  refine wpAnyH_done (by kernel_rfl) ?_ _
  go_wp2
  all_goals
    go_end0
    first
      | exact ⟨rfl, HF.out x.dep (by omega)⟩
      | (have h9 := HF.out (k + 1) (by omega)
         rw [show (((k + 1 : Nat)) : Int) = (k : Int) + 1 by omega] at h9
         exact ⟨rfl, h9⟩)
theorem TR.hang0 {n t wd : Nat} {bs : List Nat} {ms : List (Option Nat)} {x : Num} {W W' : World} (h : TR W t wd ([] : List (Nd (Cd n))) bs ms x) (c : Cd n) (nb : Nat)
    (htree : W'.heap[t]? = some (.cells #[.int .i64 wd, .pointer (some ⟨nb, 0, none⟩), .int .i64 (x.live + 1 : Nat), .int .i64 x.dead, .int .i64 (max x.dep 1 : Nat), .int .i64 x.looked] 64 (0, 0)))
    (hnew : W'.heap[nb]? = some (.cells #[.string c.1, .bool true, .map none] 73 (0, 0))) :
    TR W' t wd (TreeMath.hang dC [] c) [nb] [none] ⟨x.live + 1, x.dead, max x.dep 1, x.looked⟩ := by
  have hwf' : WF dC (TreeMath.hang dC [] c) := hang_wf dC_zero h.wf (fun n hn => by cases hn)
  rw [hang_nil] at hwf' ⊢
  have hal : x.live + x.dead = 0 := h.all
  have hdp : x.dep ≤ 0 := h.depT
  refine { wid := h.wid, eight := h.eight, wf := hwf', lb := rfl, lm := rfl, tree := htree, node := ?_, kids := ?_, bare := ?_, nodup := by simp, msep := ?_, live := ?_, all := ?_, small := by show 1 ≤ _; decide, dep := ?_, depT := ?_, depE := ?_, lk := h.lk }
  · intro j b nd m hj hb hm
    cases j with
    | zero =>
      simp at hj hb hm
      rw [← hj, ← hb, ← hm]; exact hnew
    | succ j => simp at hj
  · intro j mb hm
    cases j with
    | zero => simp at hm
    | succ j => simp at hm
  · intro j _ e
    unfold child
    simp
  · intro i j a h1
    cases i with
    | zero => simp at h1
    | succ i => simp at h1
  · show x.live + 1 = 1
    omega
  · show x.live + 1 + x.dead = 1
    omega
  · intro j hj
    have hj0 : j = 0 := by simpa using hj
    subst hj0
    show TreeMath.dep _ 1 0 ≤ max x.dep 1
    simp [TreeMath.dep]
    omega
  · show max x.dep 1 ≤ 1
    omega
  · refine .inr ⟨0, by simp, ?_⟩
    show TreeMath.dep _ 1 0 = max x.dep 1
    simp [TreeMath.dep]
    omega
set_option maxHeartbeats 4000000 in
set_option maxRecDepth 100000 in
theorem hang_root {n t wd : Nat} {bs : List Nat} {ms : List (Option Nat)} {x : Num} (c : Cd n) (W : World) (h : TR W t wd ([] : List (Nd (Cd n))) bs ms x) :
    Calls Tryd.prog 36 #[.pointer (some ⟨t, 0, none⟩), .agg #[.pointer none, .int .i64 0, .int .i64 0], .string c.1] W (fun r w' => r = .returned (.tuple #[]) ∧ HangTo W w' t wd (TreeMath.hang dC [] c) bs ms x) := by
  have htl : t < W.heap.size := h.lt (.inl rfl)
  have hxd : x.dep ≤ 0 := h.depT
  have hxl : x.live ≤ 0 := by have : x.live + x.dead = 0 := h.all; omega
  have HT := Hid.mk h
  generalize hH : W.heap.size = H at *
  obtain ⟨W2, hW2⟩ : ∃ W2, W2 = (W.alloc (.cells #[.pointer none, .int .i64 0, .int .i64 0] 66)).alloc (.cells #[.string c.1, .bool true, .map none] 73) := ⟨_, rfl⟩
  have bW2 : Below W.heap.size W W2 := by rw [hW2]; exact ((Below.refl _ W).alloc (Nat.le_refl _) _).alloc (by simp) _
  have hbx : W2.heap[H]? = some (.cells #[.pointer none, .int .i64 0, .int .i64 0] 66 (0, 0)) := by
    rw [hW2, ← hH]
    exact (((Below.refl _ (W.alloc (.cells #[.pointer none, .int .i64 0, .int .i64 0] 66))).alloc (Nat.le_refl _) _).block _ (by simp)).trans (heap_alloc_new W _)
  have hnb : W2.heap[H + 1]? = some (.cells #[.string c.1, .bool true, .map none] 73 (0, 0)) := by
    have := heap_alloc_new (W.alloc (.cells #[.pointer none, .int .i64 0, .int .i64 0] 66)) (.cells #[.string c.1, .bool true, .map none] 73)
    rw [hW2, ← hH]
    have e1 : (W.alloc (.cells #[.pointer none, .int .i64 0, .int .i64 0] 66)).heap.size = W.heap.size + 1 := by simp
    rw [e1] at this
    exact this
  have szW2 : W2.heap.size = H + 2 := by rw [hW2, ← hH]; simp
  have bt2 : W2.heap[t]? = W.heap[t]? := bW2.block t (by omega)
  obtain ⟨w5, hw5⟩ : ∃ w5, w5 = W2.setCell ⟨t, 1, none⟩ (.pointer (some ⟨H + 1, 0, none⟩)) := ⟨_, rfl⟩
  have s45 : Stay (fun k => k = t) W2 w5 := by rw [hw5]; refine Stay.setCell (Stay.refl _ W2) (p := ⟨t, 1, none⟩) (fun _ => ?_) _; rfl
  have tree5 : w5.heap[t]? = some (.cells #[.int .i64 wd, .pointer (some ⟨H + 1, 0, none⟩), .int .i64 x.live, .int .i64 x.dead, .int .i64 x.dep, .int .i64 x.looked] 64 (0, 0)) := by rw [hw5]; exact heap_setCell_same W2 t 1 _ _ _ (bt2.trans h.tree)
  have bH5 : w5.heap[H]? = _ := (s45.block H (by omega) (by omega)).trans hbx
  have bn5 : w5.heap[H + 1]? = _ := (s45.block (H + 1) (by omega) (by omega)).trans hnb
  have sz5 : H + 2 ≤ w5.heap.size := by have := s45.size; omega
  have stay5 : Stay (fun k => k = t) W w5 := (Stay.below bW2).andThen s45 (fun i _ hi => hi)
  have HF := Hid.mk (fun (z : Nat) (hz : z = max x.dep 1) => show HangTo W ((w5.setCell ⟨t, 2, none⟩ (.int .i64 ((x.live : Int) + 1))).setCell ⟨t, 4, none⟩ (.int .i64 z)).drew t wd (TreeMath.hang dC [] c) bs ms x from by
    obtain ⟨ft, fs⟩ := fin_t (y := .int .i64 ((x.live : Int) + 1)) (z := .int .i64 z) tree5
    have sF := stay5.andThen fs (fun i _ hi => hi)
    have tr := HT.out.hang0 (W' := ((w5.setCell ⟨t, 2, none⟩ (.int .i64 ((x.live : Int) + 1))).setCell ⟨t, 4, none⟩ (.int .i64 z)).drew) c (H + 1) (by rw [ft, hz]; simp) ((fs.block (H + 1) (by omega) (by omega)).trans bn5)
    refine ⟨⟨_, _, _, tr, rfl, rfl, rfl, fun k hk => ?_⟩, sF.mono (fun k _ hk => .inl hk)⟩
    rcases hk with hk | hk | hk
    · exact .inl (.inl hk)
    · simp at hk; right; omega
    · simp at hk)
  have p2 : w5.cell? ⟨H, 2, none⟩ = some (.int .i64 0) := by unfold World.cell?; rw [bH5]; rfl
  have u2 : w5.cell? ⟨t, 2, none⟩ = some (.int .i64 x.live) := by unfold World.cell?; rw [tree5]; rfl
  have u4 : w5.cell? ⟨t, 4, none⟩ = some (.int .i64 x.dep) := by unfold World.cell?; rw [tree5]; rfl
  have uf : ∀ j, w5.frozen? ⟨t, j, none⟩ = false := fun j => by unfold World.frozen?; rw [tree5]; simp
  have x1 : W.cell? ⟨t, 1, none⟩ = some (.pointer none) := by unfold World.cell?; rw [h.tree]; rfl
  have x2 : W.cell? ⟨t, 2, none⟩ = some (.int .i64 x.live) := by unfold World.cell?; rw [h.tree]; rfl
  have x4 : ∀ j, W.frozen? ⟨t, j, none⟩ = false := fun j => by unfold World.frozen?; rw [h.tree]; simp
  have hne : t ≠ H := by omega
  have hne' : H ≠ t := by omega
  have HW5 := Hid.mk (hw5.trans (by rw [hW2]))
  clear bt2 bH5 bn5 tree5 stay5 hbx hnb bW2 h szW2 hW2 hw5 s45
  go_enter Tryd.func36, Tryd.ntmps36
  go_wp2_with fail
  have e9 : (((W.setCell ⟨t, 1, none⟩ (.pointer (some ⟨H + 1, 0, none⟩))).setCell ⟨t, 2, none⟩ (.int .i64 ((x.live : Int) + 1))).alloc (.cells #[.pointer none, .int .i64 0, .int .i64 0] 66)).alloc (.cells #[.string c.1, .bool true, .map none] 73) = w5.setCell ⟨t, 2, none⟩ (.int .i64 ((x.live : Int) + 1)) := by
    rw [HW5.out]
    have a0 : t < W.heap.size := by omega
    have a1 : t < (W.alloc (.cells #[.pointer none, .int .i64 0, .int .i64 0] 66)).heap.size := by simp; omega
    have q1 := World.setCell_alloc_past (w := W.alloc (.cells #[.pointer none, .int .i64 0, .int .i64 0] 66)) (.cells #[.string c.1, .bool true, .map none] 73) t 1 (.pointer (some ⟨H + 1, 0, none⟩)) a1
    have q2 := World.setCell_alloc_past (w := W) (.cells #[.pointer none, .int .i64 0, .int .i64 0] 66) t 1 (.pointer (some ⟨H + 1, 0, none⟩)) a0
    rw [q1, q2]
    have a2 : t < (W.setCell ⟨t, 1, none⟩ (.pointer (some ⟨H + 1, 0, none⟩))).heap.size := by rw [World.size_setCell]; exact a0
    have a3 : t < ((W.setCell ⟨t, 1, none⟩ (.pointer (some ⟨H + 1, 0, none⟩))).alloc (.cells #[.pointer none, .int .i64 0, .int .i64 0] 66)).heap.size := Nat.lt_of_lt_of_le a2 ((Below.refl _ _).alloc (Nat.le_refl _) _).size
    rw [World.setCell_alloc_past _ _ _ _ a3, World.setCell_alloc_past _ _ _ _ a2]
  rw [e9]
  have s2 : (w5.setCell ⟨t, 2, none⟩ (.int .i64 ((x.live : Int) + 1))).cell? ⟨H, 2, none⟩ = some (.int .i64 0) := (World.cell?_setCell_other _ _ _ _ (by intro e; (simp at e) <;> omega)).trans p2
  have s3 : ∀ z, ((w5.setCell ⟨t, 2, none⟩ (.int .i64 ((x.live : Int) + 1))).drew.setCell ⟨t, 4, none⟩ z).cell? ⟨H, 2, none⟩ = some (.int .i64 0) := fun z => (World.cell?_setCell_other _ _ _ _ (by intro e; (simp at e) <;> omega)).trans s2
  clear x1 x2 x4 HW5 e9
  have hw1 : IntKind.i64.wrap 1 = 1 := by decide
  refine wp_region_held_drew (S := fun w' => w'.cell? ⟨H, 2, none⟩ = some (.int .i64 0)) (by kernel_rfl) ?_ (fun hHeld => ?_)
  · exact s2
  refine wpAnyH_take (i := 0) (oi := { dst := some 49, op := Op.move (Operand.tmp 0), type := 24, pos := "node.go:68", after := #[], guard := none }) (v := ?vz0) rfl (by kernel_rfl) (by kernel_rfl) (by kernel_rfl) (fun _ _ _ h => h) (Or.inl ⟨by rfl, ?hz0⟩) (by assumption) ?rz0
  case hz0 => (intro w0 hSw; (try dsimp only at hSw); go_simp; try (with_reducible rfl))
  simp only [Act.put, List.setIfInBounds_toArray, List.set_cons_zero, List.set_cons_succ]
  refine wpAnyH_take (i := 1) (oi := { dst := some 50, op := Op.move (Operand.tmp 0), type := 24, pos := "node.go:68", after := #[], guard := none }) (v := ?vz1) rfl (by kernel_rfl) (by kernel_rfl) (by kernel_rfl) (fun _ _ _ h => h) (Or.inl ⟨by rfl, ?hz1⟩) (by assumption) ?rz1
  case hz1 => (intro w0 hSw; (try dsimp only at hSw); go_simp; try (with_reducible rfl))
  simp only [Act.put, List.setIfInBounds_toArray, List.set_cons_zero, List.set_cons_succ]
  refine wpAnyH_take (i := 2) (oi := { dst := some 51, op := Op.nilCheck (Operand.tmp 50), type := 0, pos := "node.go:68", after := #[{ on := 1, ground := Ground.data }], guard := none }) (v := ?vz2) rfl (by kernel_rfl) (by kernel_rfl) (by kernel_rfl) (fun _ _ _ h => h) (Or.inl ⟨by rfl, ?hz2⟩) (by assumption) ?rz2
  case hz2 => (intro w0 hSw; (try dsimp only at hSw); go_simp; try (with_reducible rfl))
  simp only [Act.put, List.setIfInBounds_toArray, List.set_cons_zero, List.set_cons_succ]
  refine wpAnyH_take (i := 3) (oi := { dst := some 52, op := Op.fieldAddr 64 (Operand.tmp 51) 4, type := 0, pos := "node.go:68", after := #[{ on := 2, ground := Ground.data }], guard := none }) (v := ?vz3) rfl (by kernel_rfl) (by kernel_rfl) (by kernel_rfl) (fun _ _ _ h => h) (Or.inl ⟨by rfl, ?hz3⟩) (by assumption) ?rz3
  case hz3 => (intro w0 hSw; (try dsimp only at hSw); go_simp; try (with_reducible rfl))
  simp only [Act.put, List.setIfInBounds_toArray, List.set_cons_zero, List.set_cons_succ]
  refine wpAnyH_take (i := 5) (oi := { dst := some 54, op := Op.fieldAddr 66 (Operand.tmp 4) 2, type := 0, pos := "node.go:68", after := #[], guard := none }) (v := ?vz5) rfl (by kernel_rfl) (by kernel_rfl) (by kernel_rfl) (fun _ _ _ h => h) (Or.inl ⟨by rfl, ?hz5⟩) (by assumption) ?rz5
  case hz5 => (intro w0 hSw; (try dsimp only at hSw); go_simp; try (with_reducible rfl))
  simp only [Act.put, List.setIfInBounds_toArray, List.set_cons_zero, List.set_cons_succ]
  refine wpAnyH_take (i := 6) (oi := { dst := some 55, op := Op.load 3 (Operand.tmp 54), type := 3, pos := "node.go:68", after := #[{ on := 5, ground := Ground.data }], guard := none }) (v := ?vz6) rfl (by kernel_rfl) (by kernel_rfl) (by kernel_rfl) (fun _ _ _ h => h) (Or.inl ⟨by rfl, ?hz6⟩) (by assumption) ?rz6
  case hz6 => (intro w0 hSw; (try dsimp only at hSw); go_simp; try (with_reducible rfl))
  simp only [Act.put, List.setIfInBounds_toArray, List.set_cons_zero, List.set_cons_succ]
  refine wpAnyH_take (i := 7) (oi := { dst := some 56, op := Op.binOp BinOp.add 3 (Operand.tmp 55) (Operand.const (Value.int IntKind.i64 1)) 3, type := 3, pos := "node.go:68", after := #[{ on := 6, ground := Ground.data }], guard := none }) (v := ?vz7) rfl (by kernel_rfl) (by kernel_rfl) (by kernel_rfl) (fun _ _ _ h => h) (Or.inl ⟨by rfl, ?hz7⟩) (by assumption) ?rz7
  case hz7 => (intro w0 hSw; (try dsimp only at hSw); go_simp; try (with_reducible rfl))
  simp only [Act.put, List.setIfInBounds_toArray, List.set_cons_zero, List.set_cons_succ]
  refine wpAnyH_ready (rs := [4]) (by kernel_rfl) (by simp) ?_
  refine AllReadyH.cons rfl (fun K0 hK0 => ?_) AllReadyH.nil
  go_simp
  refine hK0.out _ _ ?_ (fun hHeld => ?_)
  · exact s2
  clear hK0 K0
  refine wpAnyH_take (i := 8) (oi := { dst := some 57, op := Op.call { callee := Callee.builtin Builtin.max, args := #[Operand.tmp 53, Operand.tmp 56], argTypes := #[3, 3] }, type := 3, pos := "node.go:68", after := #[{ on := 4, ground := Ground.data }, { on := 7, ground := Ground.data }], guard := none }) (v := ?vz8) rfl (by kernel_rfl) (by kernel_rfl) (by kernel_rfl) (fun _ _ _ h => h) (Or.inl ⟨by rfl, ?hz8⟩) (by assumption) ?rz8
  case hz8 => (intro w0 hSw; (try dsimp only at hSw); go_simp; try (with_reducible rfl))
  simp only [Act.put, List.setIfInBounds_toArray, List.set_cons_zero, List.set_cons_succ]
  refine wpAnyH_take (i := 9) (oi := { dst := some 58, op := Op.nilCheck (Operand.tmp 49), type := 0, pos := "node.go:68", after := #[{ on := 0, ground := Ground.data }, { on := 0, ground := Ground.phase }, { on := 1, ground := Ground.phase }, { on := 2, ground := Ground.phase }, { on := 3, ground := Ground.phase }, { on := 4, ground := Ground.phase }, { on := 5, ground := Ground.phase }, { on := 6, ground := Ground.phase }, { on := 7, ground := Ground.phase }, { on := 8, ground := Ground.phase }], guard := none }) (v := ?vz9) rfl (by kernel_rfl) (by kernel_rfl) (by kernel_rfl) (fun _ _ _ h => h) (Or.inl ⟨by rfl, ?hz9⟩) (by assumption) ?rz9
  case hz9 => (intro w0 hSw; (try dsimp only at hSw); go_simp; try (with_reducible rfl))
  simp only [Act.put, List.setIfInBounds_toArray, List.set_cons_zero, List.set_cons_succ]
  refine wpAnyH_take (i := 10) (oi := { dst := some 59, op := Op.fieldAddr 64 (Operand.tmp 58) 4, type := 0, pos := "node.go:68", after := #[{ on := 9, ground := Ground.data }, { on := 0, ground := Ground.phase }, { on := 1, ground := Ground.phase }, { on := 2, ground := Ground.phase }, { on := 3, ground := Ground.phase }, { on := 4, ground := Ground.phase }, { on := 5, ground := Ground.phase }, { on := 6, ground := Ground.phase }, { on := 7, ground := Ground.phase }, { on := 8, ground := Ground.phase }], guard := none }) (v := ?vz10) rfl (by kernel_rfl) (by kernel_rfl) (by kernel_rfl) (fun _ _ _ h => h) (Or.inl ⟨by rfl, ?hz10⟩) (by assumption) ?rz10
  case hz10 => (intro w0 hSw; (try dsimp only at hSw); go_simp; try (with_reducible rfl))
  simp only [Act.put, List.setIfInBounds_toArray, List.set_cons_zero, List.set_cons_succ]
  refine wpAnyH_ready (rs := [11]) (by kernel_rfl) (by simp) ?_
  refine AllReadyH.cons rfl (fun K0 hK0 => ?_) AllReadyH.nil
  go_simp
  refine hK0.out _ _ ?_ (fun hHeld => ?_)
  · exact s3 _
  clear hK0 K0
  refine wpAnyH_done (by kernel_rfl) ?_ _
  go_wp2
  all_goals
    go_end0
    first
      | exact ⟨rfl, HF.out x.dep (by omega)⟩
      | (have h9 := HF.out 1 (by omega)
         exact ⟨rfl, h9⟩)
      | (exfalso; omega)
/-- Hanging, wherever the way ends. -/
theorem hang_any {n t wd : Nat} {T : List (Nd (Cd n))} {bs : List Nat} {ms : List (Option Nat)} {x : Num} (c : Cd n) (W : World) (h : TR W t wd T bs ms x) (hc : ∀ (j : Nat) nd, T[j]? = some nd → nd.code ≠ c) (hsm : T.length < 1099511627776) {l : Value} {d k : Nat} (hw : WayO T bs c l d k) :
    Calls Tryd.prog 36 #[.pointer (some ⟨t, 0, none⟩), .agg #[l, .int .i64 (d : Nat), .int .i64 (k : Nat)], .string c.1] W (fun r w' => r = .returned (.tuple #[]) ∧ HangTo W w' t wd (TreeMath.hang dC T c) bs ms x) := by
  rcases hw with ⟨h0, rfl, rfl, rfl⟩ | ⟨nd, hnd, hch, rfl, rfl, rfl⟩
  · have : T = [] := List.eq_nil_of_length_eq_zero h0
    subst this
    exact hang_root c W h
  · obtain ⟨b, m, hb, hm, hgd, -⟩ := h.at_ hnd
    have e1 : ptr bs (some (reach dC T c T.length 0)) = .pointer (some ⟨b, 0, none⟩) := by show Value.pointer (some ⟨bs.getD _ 0, 0, none⟩) = _; rw [hgd]
    rw [e1]
    cases m with
    | none => exact hang_new c W h hc hsm rfl hnd hch hb hm
    | some m => exact hang_map c W h hc hsm rfl hnd hch hb hm
end Go.Proofs.YtnnbcdfpbdmgdaaDoor
