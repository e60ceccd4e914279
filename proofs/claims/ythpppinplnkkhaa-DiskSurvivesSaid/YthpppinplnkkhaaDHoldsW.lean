/-
  DERIVED. DiskSurvives: holds: the disk has just these files.
-/
import Derived.Test.YthpppinplnkkhaaDKept
import Derived.Deep.RegionHeld
set_option linter.unusedVariables false
set_option linter.unusedSimpArgs false
set_option linter.unnecessarySimpa false
namespace Go.Proofs.Ythpppinplnkkhaa
open Go.RowKit Go.Maps Go.Proofs.DiskMath
theorem read_whole {p mb : Nat} {es : List Ent} {c : Ctl} (w : World) (d : DK w p mb es c) (ho : c.off = false) {e : Ent} (he : e ∈ es) :
    Calls Try.prog 18 #[Pt p, .string ⟨e.nm.toArray⟩, .int .i64 0, .int .i64 (e.da.length : Nat)] w (fun r w' => r = .returned (.tuple #[.string ⟨e.da.toArray⟩, .int .i64 0]) ∧ w' = w) := by
  obtain ⟨h0, hf⟩ := fd_in d.srt d.nms ho he
  have hda := (d.hf e he).da
  refine read_any ⟨e.nm.toArray⟩ 0 (e.da.length : Nat) w d (by omega) (by omega) _ (fun hk => absurd h0 hk) (fun e' hf' hk hno => ?_) (fun e' hf' hk _ _ _ => ?_)
  · have : e = e' := Option.some.inj (hf.symm.trans hf')
    subst this
    exact absurd ⟨by omega, by omega, by omega⟩ hno
  · have : e = e' := Option.some.inj (hf.symm.trans hf')
    subst this
    refine ⟨?_, rfl⟩
    have e1 : (e.da.drop (0 : Int).toNat).take ((e.da.length : Nat) : Int).toNat = e.da := by simp
    rw [e1]
theorem size_whole {p mb : Nat} {es : List Ent} {c : Ctl} (w : World) (d : DK w p mb es c) (ho : c.off = false) {e : Ent} (he : e ∈ es) :
    Calls Try.prog 17 #[Pt p, .string ⟨e.nm.toArray⟩] w (fun r w' => r = .returned (.tuple #[.int .i64 (e.da.length : Nat), .int .i64 0]) ∧ w' = w) := by
  obtain ⟨h0, hf⟩ := fd_in d.srt d.nms ho he
  refine size_any ⟨e.nm.toArray⟩ w d _ (fun hk => absurd h0 hk) (fun e' hf' hk => ?_)
  have : e = e' := Option.some.inj (hf.symm.trans hf')
  subst this
  exact ⟨rfl, rfl⟩
theorem used_take {es : List Ent} {n : Nat} (h : n < es.length) : used (es.take (n + 1)) = used (es.take n) + (es[n]).da.length := by
  rw [List.take_succ_eq_append_getElem h]
  unfold used
  rw [List.map_append, List.sum_append]
  simp only [List.map_cons, List.map_nil, List.sum_cons, List.sum_nil, Nat.add_zero]
theorem used_take_le (es : List Ent) (n : Nat) : used (es.take n) ≤ used es := by
  have e1 : used es = used (es.take n) + used (es.drop n) := by
    unfold used
    rw [← List.sum_append, ← List.map_append, List.take_append_drop]
  omega
theorem rise_not {es : List Ent} (hs : Srt es) {m : Nat} (h : m + 1 < es.length) : Op.bytesLess (es[m]'(by omega)).nm (es[m + 1]).nm = true := by
  rw [less_lt]
  exact decide_eq_true (List.pairwise_iff_getElem.1 hs m (m + 1) (by omega) h (by omega))
set_option maxHeartbeats 4000000 in
set_option maxRecDepth 100000 in
theorem holds_any {B p mb : Nat} {es : List Ent} {c : Ctl} {v : Value} {K : List Fl} (w : World) (d : DK w p mb es c) (ho : c.off = false) (h : KL B w v K) (hp : K.Perm (es.map fl)) (R : Ending → World → Prop)
    (h1 : ∀ w', Below w.heap.size w w' → R (.returned (.bool true)) w') : Calls Try.prog 12 #[Pt p, v] w R := by
  have HR := Hid.mk h1
  clear h1
  have hlen : K.length = es.length := by rw [hp.length_eq, List.length_map]
  have hmany := d.many
  have hfull := d.full
  have hcap := d.cap
  obtain ⟨a, cap, hv⟩ := own_form h
  rw [hlen] at hv
  rw [hv]
  go_enter Try.func12, Try.ntmps12
  go_wp2_with fail
  refine names_any w d _ (fun e => by rw [ho] at e; cases e) ?_
  intro _ g gc w1 hN b1
  have d1 := d.below b1
  have h1 : KL B w1 v K := row_below h b1
  have HF := Hid.mk (And.intro hfull hcap)
  clear hfull hcap
  go_wp2
  go_loopw [6, 7] (fun u i wr => ∃ (n : Nat), i = .int .i64 n ∧ n ≤ es.length ∧ u = .int .i64 (used (es.take n) : Nat) ∧ Below w1.heap.size w1 wr) (fun _ i _ => es.length - (intOf i).toNat)
  case atStart => exact ⟨0, rfl, Nat.zero_le _, rfl, Below.refl _ _⟩
  case round =>
    obtain ⟨n, rfl, hn, rfl, hb⟩ := hrel
    have dr := d1.below hb
    have hr : KL B wr v K := row_below h1 hb
    by_cases hlt : n < es.length
    · obtain ⟨k, hk, hat, hKk⟩ := at_perm hp d.srt (List.getElem_mem hlt)
      obtain ⟨gK, capK, hv2, q0, q1, q2⟩ := hr.cell k hk
      rw [hv, hlen] at hv2
      simp only [Value.slice.injEq] at hv2
      obtain ⟨rfl, -, rfl⟩ := hv2
      have cn : wr.cell? ⟨g, n, none⟩ = some (.string ⟨(es[n]).nm.toArray⟩) := by
        refine cell_later hb ((World.ownsRow.cellAt hN n (by omega)).trans ?_)
        simp [encStr, hlt]
      have hA := at_any (⟨(es[n]).nm.toArray⟩ : ByteArray) wr hr (by omega)
      rw [show atK K (⟨(es[n]).nm.toArray⟩ : ByteArray).data.toList = k from hat, hv] at hA
      rw [hKk] at q1
      have q1' : wr.cell? ⟨gK, k * 3 + 1, none⟩ = some (.string ⟨(es[n]).da.toArray⟩) := q1
      have HRD := Hid.mk <| fun (W : World) (hW : Below wr.heap.size wr W) => read_whole W (dr.below hW) ho (List.getElem_mem hlt)
      have HSZ := Hid.mk <| fun (W : World) (hW : Below wr.heap.size wr W) => size_whole W (dr.below hW) ho (List.getElem_mem hlt)
      have HU := Hid.mk (used_take hlt)
      have hu1 : used (es.take n) ≤ 1073741824 := Nat.le_trans (used_take_le es n) (Nat.le_trans HF.out.1 HF.out.2)
      have hu2 : (es[n]).da.length ≤ 268435456 := (d.hf _ (List.getElem_mem hlt)).da
      have hsz : (⟨(es[n]).da.toArray⟩ : ByteArray).size = (es[n]).da.length := rfl
      have HRISE : Hid (∀ m (hm : n = m + 1), ∃ hm2 : m < es.length, wr.cell? ⟨g, m, none⟩ = some (.string ⟨(es[m]).nm.toArray⟩) ∧ Op.bytesLess (⟨(es[m]).nm.toArray⟩ : ByteArray).toList (⟨(es[n]).nm.toArray⟩ : ByteArray).toList = true) := fun m hm => by
        subst hm
        refine ⟨by omega, ?_, ?_⟩
        · refine cell_later hb ((World.ownsRow.cellAt hN m (by omega)).trans ?_)
          simp [encStr, show m < es.length by omega]
        · rw [ByteArray.toList_eq, ByteArray.toList_eq]
          exact rise_not d.srt hlt
      clear q0 q1 q2 h hr h1 d hN hp hat hKk hv
      generalize hNM : (⟨(es[n]).nm.toArray⟩ : ByteArray) = NM at *
      generalize hDA : (⟨(es[n]).da.toArray⟩ : ByteArray) = DA at *
      generalize hLL : (es[n]).da.length = LL at *
      clear hNM hDA hLL
      go_wp2_with fail
      refine hA.mono ?_
      rintro r w' ⟨rfl, rfl⟩
      clear hA
      have gk : ¬ ((k : Int) < 0) := by omega
      have hbD := hb.drew
      have hRd := HRD.out w'.drew (b_d w')
      have hSz := HSZ.out w'.drew (b_d w')
      clear HRD HSZ
      by_cases hz : n = 0
      · have HZ : Hid (n = 0) := hz
        have cn0 : w'.cell? ⟨g, 0, none⟩ = some (.string NM) := by rw [← hz]; exact cn
        clear HRISE
        subst hz
        go_wp2_with fail
        refine wp_region_held_drew (S := (fun w'' => w''.cell? ⟨g, 0, none⟩ = some (.string NM))) (by kernel_rfl) ?_ (fun hHeld => ?_)
        · exact cn0
        refine wpAnyH_take (i := 0) (oi := { dst := some 33, op := Op.move (Operand.tmp 8), type := 3, pos := "plain.go:113", after := #[], guard := none }) (v := ?va0) rfl (by kernel_rfl) (by kernel_rfl) (by kernel_rfl) (fun _ _ _ h => h) (Or.inl ⟨by rfl, ?ha0⟩) (by assumption) ?ra0
        case ha0 => (intro w0 hSw; (try dsimp only at hSw); go_simp; try (with_reducible rfl))
        simp only [Act.put, List.setIfInBounds_toArray, List.set_cons_zero, List.set_cons_succ]
        refine wpAnyH_take (i := 1) (oi := { dst := some 34, op := Op.binOp BinOp.lss 3 (Operand.tmp 33) (Operand.const (Value.int IntKind.i64 0)) 3, type := 4, pos := "plain.go:113", after := #[{ on := 0, ground := Ground.data }], guard := none }) (v := ?va1) rfl (by kernel_rfl) (by kernel_rfl) (by kernel_rfl) (fun _ _ _ h => h) (Or.inl ⟨by rfl, ?ha1⟩) (by assumption) ?ra1
        case ha1 => (intro w0 hSw; (try dsimp only at hSw); go_simp; try (with_reducible rfl))
        simp only [Act.put, List.setIfInBounds_toArray, List.set_cons_zero, List.set_cons_succ]
        refine wpAnyH_take (i := 2) (oi := { dst := some 35, op := Op.move (Operand.tmp 34), type := 4, pos := "plain.go:113", after := #[{ on := 1, ground := Ground.data }], guard := none }) (v := ?va2) rfl (by kernel_rfl) (by kernel_rfl) (by kernel_rfl) (fun _ _ _ h => h) (Or.inl ⟨by rfl, ?ha2⟩) (by assumption) ?ra2
        case ha2 => (intro w0 hSw; (try dsimp only at hSw); go_simp; try (with_reducible rfl))
        simp only [Act.put, List.setIfInBounds_toArray, List.set_cons_zero, List.set_cons_succ]
        refine wpAnyH_take (i := 3) (oi := { dst := some 36, op := Op.move (Operand.tmp 7), type := 3, pos := "plain.go:113", after := #[{ on := 2, ground := Ground.guard }], guard := some (2, false) }) (v := ?va3) rfl (by kernel_rfl) (by kernel_rfl) (by kernel_rfl) (fun _ _ _ h => h) (Or.inl ⟨by rfl, ?ha3⟩) (by assumption) ?ra3
        case ha3 => (intro w0 hSw; (try dsimp only at hSw); go_simp; try (with_reducible rfl))
        simp only [Act.put, List.setIfInBounds_toArray, List.set_cons_zero, List.set_cons_succ]
        refine wpAnyH_take (i := 4) (oi := { dst := some 37, op := Op.binOp BinOp.gtr 3 (Operand.tmp 36) (Operand.const (Value.int IntKind.i64 0)) 3, type := 4, pos := "plain.go:113", after := #[{ on := 3, ground := Ground.data }, { on := 2, ground := Ground.guard }], guard := some (2, false) }) (v := ?va4) rfl (by kernel_rfl) (by kernel_rfl) (by kernel_rfl) (fun _ _ _ h => h) (Or.inl ⟨by rfl, ?ha4⟩) (by assumption) ?ra4
        case ha4 => (intro w0 hSw; (try dsimp only at hSw); go_simp; try (with_reducible rfl))
        simp only [Act.put, List.setIfInBounds_toArray, List.set_cons_zero, List.set_cons_succ]
        refine wpAnyH_take (i := 5) (oi := { dst := some 38, op := Op.move (Operand.tmp 37), type := 4, pos := "plain.go:113", after := #[{ on := 4, ground := Ground.data }, { on := 2, ground := Ground.chain }, { on := 2, ground := Ground.guard }], guard := some (2, false) }) (v := ?va5) rfl (by kernel_rfl) (by kernel_rfl) (by kernel_rfl) (fun _ _ _ h => h) (Or.inl ⟨by rfl, ?ha5⟩) (by assumption) ?ra5
        case ha5 => (intro w0 hSw; (try dsimp only at hSw); go_simp; try (with_reducible rfl))
        simp only [Act.put, List.setIfInBounds_toArray, List.set_cons_zero, List.set_cons_succ]
        refine wpAnyH_take (i := 6) (oi := { dst := some 39, op := Op.move (Operand.tmp 5), type := 63, pos := "plain.go:113", after := #[{ on := 5, ground := Ground.guard }], guard := some (5, true) }) rfl (by kernel_rfl) (by kernel_rfl) (by kernel_rfl) (fun _ _ _ h => h) (Or.inr ⟨by rfl, rfl⟩) (by assumption) ?_
        simp only [Act.put, List.setIfInBounds_toArray, List.set_cons_zero, List.set_cons_succ]
        refine wpAnyH_take (i := 7) (oi := { dst := some 40, op := Op.move (Operand.tmp 7), type := 3, pos := "plain.go:113", after := #[{ on := 5, ground := Ground.guard }], guard := some (5, true) }) rfl (by kernel_rfl) (by kernel_rfl) (by kernel_rfl) (fun _ _ _ h => h) (Or.inr ⟨by rfl, rfl⟩) (by assumption) ?_
        simp only [Act.put, List.setIfInBounds_toArray, List.set_cons_zero, List.set_cons_succ]
        refine wpAnyH_take (i := 8) (oi := { dst := some 41, op := Op.binOp BinOp.sub 3 (Operand.tmp 40) (Operand.const (Value.int IntKind.i64 1)) 3, type := 3, pos := "plain.go:113", after := #[{ on := 7, ground := Ground.data }, { on := 5, ground := Ground.guard }], guard := some (5, true) }) rfl (by kernel_rfl) (by kernel_rfl) (by kernel_rfl) (fun _ _ _ h => h) (Or.inr ⟨by rfl, rfl⟩) (by assumption) ?_
        simp only [Act.put, List.setIfInBounds_toArray, List.set_cons_zero, List.set_cons_succ]
        refine wpAnyH_take (i := 9) (oi := { dst := some 42, op := Op.indexAddr 63 (Operand.tmp 39) (Operand.tmp 41), type := 0, pos := "plain.go:113", after := #[{ on := 6, ground := Ground.data }, { on := 8, ground := Ground.data }, { on := 5, ground := Ground.guard }], guard := some (5, true) }) rfl (by kernel_rfl) (by kernel_rfl) (by kernel_rfl) (fun _ _ _ h => h) (Or.inr ⟨by rfl, rfl⟩) (by assumption) ?_
        simp only [Act.put, List.setIfInBounds_toArray, List.set_cons_zero, List.set_cons_succ]
        refine wpAnyH_take (i := 10) (oi := { dst := some 43, op := Op.load 9 (Operand.tmp 42), type := 9, pos := "plain.go:113", after := #[{ on := 9, ground := Ground.data }, { on := 5, ground := Ground.guard }], guard := some (5, true) }) rfl (by kernel_rfl) (by kernel_rfl) (by kernel_rfl) (fun _ _ _ h => h) (Or.inr ⟨by rfl, rfl⟩) (by assumption) ?_
        simp only [Act.put, List.setIfInBounds_toArray, List.set_cons_zero, List.set_cons_succ]
        refine wpAnyH_take (i := 11) (oi := { dst := some 44, op := Op.move (Operand.tmp 5), type := 63, pos := "plain.go:113", after := #[{ on := 5, ground := Ground.guard }], guard := some (5, true) }) rfl (by kernel_rfl) (by kernel_rfl) (by kernel_rfl) (fun _ _ _ h => h) (Or.inr ⟨by rfl, rfl⟩) (by assumption) ?_
        simp only [Act.put, List.setIfInBounds_toArray, List.set_cons_zero, List.set_cons_succ]
        refine wpAnyH_take (i := 12) (oi := { dst := some 45, op := Op.move (Operand.tmp 7), type := 3, pos := "plain.go:113", after := #[{ on := 5, ground := Ground.guard }], guard := some (5, true) }) rfl (by kernel_rfl) (by kernel_rfl) (by kernel_rfl) (fun _ _ _ h => h) (Or.inr ⟨by rfl, rfl⟩) (by assumption) ?_
        simp only [Act.put, List.setIfInBounds_toArray, List.set_cons_zero, List.set_cons_succ]
        refine wpAnyH_take (i := 13) (oi := { dst := some 46, op := Op.indexAddr 63 (Operand.tmp 44) (Operand.tmp 45), type := 0, pos := "plain.go:113", after := #[{ on := 11, ground := Ground.data }, { on := 12, ground := Ground.data }, { on := 5, ground := Ground.guard }], guard := some (5, true) }) rfl (by kernel_rfl) (by kernel_rfl) (by kernel_rfl) (fun _ _ _ h => h) (Or.inr ⟨by rfl, rfl⟩) (by assumption) ?_
        simp only [Act.put, List.setIfInBounds_toArray, List.set_cons_zero, List.set_cons_succ]
        refine wpAnyH_take (i := 14) (oi := { dst := some 47, op := Op.load 9 (Operand.tmp 46), type := 9, pos := "plain.go:113", after := #[{ on := 13, ground := Ground.data }, { on := 5, ground := Ground.guard }], guard := some (5, true) }) rfl (by kernel_rfl) (by kernel_rfl) (by kernel_rfl) (fun _ _ _ h => h) (Or.inr ⟨by rfl, rfl⟩) (by assumption) ?_
        simp only [Act.put, List.setIfInBounds_toArray, List.set_cons_zero, List.set_cons_succ]
        refine wpAnyH_take (i := 15) (oi := { dst := some 48, op := Op.binOp BinOp.geq 9 (Operand.tmp 43) (Operand.tmp 47) 9, type := 4, pos := "plain.go:113", after := #[{ on := 10, ground := Ground.data }, { on := 14, ground := Ground.data }, { on := 5, ground := Ground.guard }], guard := some (5, true) }) rfl (by kernel_rfl) (by kernel_rfl) (by kernel_rfl) (fun _ _ _ h => h) (Or.inr ⟨by rfl, rfl⟩) (by assumption) ?_
        simp only [Act.put, List.setIfInBounds_toArray, List.set_cons_zero, List.set_cons_succ]
        refine wpAnyH_take (i := 16) (oi := { dst := some 49, op := Op.pick (Operand.tmp 38) (Operand.tmp 48) (Operand.const (Value.bool false)), type := 4, pos := "plain.go:113", after := #[{ on := 5, ground := Ground.data }, { on := 15, ground := Ground.data }, { on := 2, ground := Ground.guard }], guard := some (2, false) }) (v := ?va16) rfl (by kernel_rfl) (by kernel_rfl) (by kernel_rfl) (fun _ _ _ h => h) (Or.inl ⟨by rfl, ?ha16⟩) (by assumption) ?ra16
        case ha16 => (intro w0 hSw; (try dsimp only at hSw); go_simp; try (with_reducible rfl))
        simp only [Act.put, List.setIfInBounds_toArray, List.set_cons_zero, List.set_cons_succ]
        refine wpAnyH_take (i := 17) (oi := { dst := some 50, op := Op.pick (Operand.tmp 35) (Operand.const (Value.bool true)) (Operand.tmp 49), type := 4, pos := "plain.go:113", after := #[{ on := 2, ground := Ground.data }, { on := 16, ground := Ground.data }], guard := none }) (v := ?va17) rfl (by kernel_rfl) (by kernel_rfl) (by kernel_rfl) (fun _ _ _ h => h) (Or.inl ⟨by rfl, ?ha17⟩) (by assumption) ?ra17
        case ha17 => (intro w0 hSw; (try dsimp only at hSw); go_simp; try (with_reducible rfl))
        simp only [Act.put, List.setIfInBounds_toArray, List.set_cons_zero, List.set_cons_succ]
        refine wpAnyH_done (by kernel_rfl) ?_ _
        go_wp2_with fail
        refine hRd.mono ?_
        rintro r w5 ⟨rfl, rfl⟩
        go_wp2_with fail
        refine hSz.mono ?_
        rintro r w6 ⟨rfl, rfl⟩
        go_wp2
        exact ⟨⟨0 + 1, rfl, hlt, by rw [HU.out]; simp [used]; unfold wrap64; omega, hbD⟩, by simp only [intOf]; omega⟩
      · obtain ⟨m, hm⟩ : ∃ m, n = m + 1 := ⟨n - 1, by omega⟩
        obtain ⟨hm2, cm, hrise⟩ := HRISE.out m hm
        generalize hMM : (⟨(es[m]).nm.toArray⟩ : ByteArray) = MM at *
        have gz : (0 : Int) < (n : Int) := by omega
        have gzn : 0 < n := by omega
        have gm : (n : Int) - 1 = (m : Int) := by omega
        have hwm : IntKind.i64.wrap (m : Int) = (m : Int) := by rw [IntKind.wrap_i64]; omega
        have HM := Hid.mk hm
        have hml : m < es.length := hm2
        clear HRISE hm hMM
        go_wp2_with fail
        refine wp_region_held_drew (S := (fun w'' => w''.cell? ⟨g, n, none⟩ = some (.string NM) ∧ w''.cell? ⟨g, m, none⟩ = some (.string MM))) (by kernel_rfl) ?_ (fun hHeld => ?_)
        · exact ⟨cn, cm⟩
        refine wpAnyH_take (i := 0) (oi := { dst := some 33, op := Op.move (Operand.tmp 8), type := 3, pos := "plain.go:113", after := #[], guard := none }) (v := ?vb0) rfl (by kernel_rfl) (by kernel_rfl) (by kernel_rfl) (fun _ _ _ h => h) (Or.inl ⟨by rfl, ?hb0⟩) (by assumption) ?rb0
        case hb0 => (intro w0 hSw; (try dsimp only at hSw); go_simp; try (with_reducible rfl))
        simp only [Act.put, List.setIfInBounds_toArray, List.set_cons_zero, List.set_cons_succ]
        refine wpAnyH_take (i := 1) (oi := { dst := some 34, op := Op.binOp BinOp.lss 3 (Operand.tmp 33) (Operand.const (Value.int IntKind.i64 0)) 3, type := 4, pos := "plain.go:113", after := #[{ on := 0, ground := Ground.data }], guard := none }) (v := ?vb1) rfl (by kernel_rfl) (by kernel_rfl) (by kernel_rfl) (fun _ _ _ h => h) (Or.inl ⟨by rfl, ?hb1⟩) (by assumption) ?rb1
        case hb1 => (intro w0 hSw; (try dsimp only at hSw); go_simp; try (with_reducible rfl))
        simp only [Act.put, List.setIfInBounds_toArray, List.set_cons_zero, List.set_cons_succ]
        refine wpAnyH_take (i := 2) (oi := { dst := some 35, op := Op.move (Operand.tmp 34), type := 4, pos := "plain.go:113", after := #[{ on := 1, ground := Ground.data }], guard := none }) (v := ?vb2) rfl (by kernel_rfl) (by kernel_rfl) (by kernel_rfl) (fun _ _ _ h => h) (Or.inl ⟨by rfl, ?hb2⟩) (by assumption) ?rb2
        case hb2 => (intro w0 hSw; (try dsimp only at hSw); go_simp; try (with_reducible rfl))
        simp only [Act.put, List.setIfInBounds_toArray, List.set_cons_zero, List.set_cons_succ]
        refine wpAnyH_take (i := 3) (oi := { dst := some 36, op := Op.move (Operand.tmp 7), type := 3, pos := "plain.go:113", after := #[{ on := 2, ground := Ground.guard }], guard := some (2, false) }) (v := ?vb3) rfl (by kernel_rfl) (by kernel_rfl) (by kernel_rfl) (fun _ _ _ h => h) (Or.inl ⟨by rfl, ?hb3⟩) (by assumption) ?rb3
        case hb3 => (intro w0 hSw; (try dsimp only at hSw); go_simp; try (with_reducible rfl))
        simp only [Act.put, List.setIfInBounds_toArray, List.set_cons_zero, List.set_cons_succ]
        refine wpAnyH_take (i := 4) (oi := { dst := some 37, op := Op.binOp BinOp.gtr 3 (Operand.tmp 36) (Operand.const (Value.int IntKind.i64 0)) 3, type := 4, pos := "plain.go:113", after := #[{ on := 3, ground := Ground.data }, { on := 2, ground := Ground.guard }], guard := some (2, false) }) (v := ?vb4) rfl (by kernel_rfl) (by kernel_rfl) (by kernel_rfl) (fun _ _ _ h => h) (Or.inl ⟨by rfl, ?hb4⟩) (by assumption) ?rb4
        case hb4 => (intro w0 hSw; (try dsimp only at hSw); go_simp; try (with_reducible rfl))
        simp only [Act.put, List.setIfInBounds_toArray, List.set_cons_zero, List.set_cons_succ]
        refine wpAnyH_take (i := 5) (oi := { dst := some 38, op := Op.move (Operand.tmp 37), type := 4, pos := "plain.go:113", after := #[{ on := 4, ground := Ground.data }, { on := 2, ground := Ground.chain }, { on := 2, ground := Ground.guard }], guard := some (2, false) }) (v := ?vb5) rfl (by kernel_rfl) (by kernel_rfl) (by kernel_rfl) (fun _ _ _ h => h) (Or.inl ⟨by rfl, ?hb5⟩) (by assumption) ?rb5
        case hb5 => (intro w0 hSw; (try dsimp only at hSw); go_simp; try (with_reducible rfl))
        simp only [Act.put, List.setIfInBounds_toArray, List.set_cons_zero, List.set_cons_succ]
        refine wpAnyH_take (i := 6) (oi := { dst := some 39, op := Op.move (Operand.tmp 5), type := 63, pos := "plain.go:113", after := #[{ on := 5, ground := Ground.guard }], guard := some (5, true) }) (v := ?vb6) rfl (by kernel_rfl) (by kernel_rfl) (by kernel_rfl) (fun _ _ _ h => h) (Or.inl ⟨by rfl, ?hb6⟩) (by assumption) ?rb6
        case hb6 => (intro w0 hSw; (try dsimp only at hSw); go_simp; try (with_reducible rfl))
        simp only [Act.put, List.setIfInBounds_toArray, List.set_cons_zero, List.set_cons_succ]
        refine wpAnyH_take (i := 7) (oi := { dst := some 40, op := Op.move (Operand.tmp 7), type := 3, pos := "plain.go:113", after := #[{ on := 5, ground := Ground.guard }], guard := some (5, true) }) (v := ?vb7) rfl (by kernel_rfl) (by kernel_rfl) (by kernel_rfl) (fun _ _ _ h => h) (Or.inl ⟨by rfl, ?hb7⟩) (by assumption) ?rb7
        case hb7 => (intro w0 hSw; (try dsimp only at hSw); go_simp; try (with_reducible rfl))
        simp only [Act.put, List.setIfInBounds_toArray, List.set_cons_zero, List.set_cons_succ]
        refine wpAnyH_take (i := 8) (oi := { dst := some 41, op := Op.binOp BinOp.sub 3 (Operand.tmp 40) (Operand.const (Value.int IntKind.i64 1)) 3, type := 3, pos := "plain.go:113", after := #[{ on := 7, ground := Ground.data }, { on := 5, ground := Ground.guard }], guard := some (5, true) }) (v := ?vb8) rfl (by kernel_rfl) (by kernel_rfl) (by kernel_rfl) (fun _ _ _ h => h) (Or.inl ⟨by rfl, ?hb8⟩) (by assumption) ?rb8
        case hb8 => (intro w0 hSw; (try dsimp only at hSw); go_simp; try (with_reducible rfl))
        simp only [Act.put, List.setIfInBounds_toArray, List.set_cons_zero, List.set_cons_succ]
        refine wpAnyH_take (i := 9) (oi := { dst := some 42, op := Op.indexAddr 63 (Operand.tmp 39) (Operand.tmp 41), type := 0, pos := "plain.go:113", after := #[{ on := 6, ground := Ground.data }, { on := 8, ground := Ground.data }, { on := 5, ground := Ground.guard }], guard := some (5, true) }) (v := ?vb9) rfl (by kernel_rfl) (by kernel_rfl) (by kernel_rfl) (fun _ _ _ h => h) (Or.inl ⟨by rfl, ?hb9⟩) (by assumption) ?rb9
        case hb9 => (intro w0 hSw; (try dsimp only at hSw); go_simp; try (with_reducible rfl))
        simp only [Act.put, List.setIfInBounds_toArray, List.set_cons_zero, List.set_cons_succ]
        refine wpAnyH_take (i := 10) (oi := { dst := some 43, op := Op.load 9 (Operand.tmp 42), type := 9, pos := "plain.go:113", after := #[{ on := 9, ground := Ground.data }, { on := 5, ground := Ground.guard }], guard := some (5, true) }) (v := ?vb10) rfl (by kernel_rfl) (by kernel_rfl) (by kernel_rfl) (fun _ _ _ h => h) (Or.inl ⟨by rfl, ?hb10⟩) (by assumption) ?rb10
        case hb10 => (intro w0 hSw; (try dsimp only at hSw); go_simp; try (with_reducible rfl))
        simp only [Act.put, List.setIfInBounds_toArray, List.set_cons_zero, List.set_cons_succ]
        refine wpAnyH_take (i := 11) (oi := { dst := some 44, op := Op.move (Operand.tmp 5), type := 63, pos := "plain.go:113", after := #[{ on := 5, ground := Ground.guard }], guard := some (5, true) }) (v := ?vb11) rfl (by kernel_rfl) (by kernel_rfl) (by kernel_rfl) (fun _ _ _ h => h) (Or.inl ⟨by rfl, ?hb11⟩) (by assumption) ?rb11
        case hb11 => (intro w0 hSw; (try dsimp only at hSw); go_simp; try (with_reducible rfl))
        simp only [Act.put, List.setIfInBounds_toArray, List.set_cons_zero, List.set_cons_succ]
        refine wpAnyH_take (i := 12) (oi := { dst := some 45, op := Op.move (Operand.tmp 7), type := 3, pos := "plain.go:113", after := #[{ on := 5, ground := Ground.guard }], guard := some (5, true) }) (v := ?vb12) rfl (by kernel_rfl) (by kernel_rfl) (by kernel_rfl) (fun _ _ _ h => h) (Or.inl ⟨by rfl, ?hb12⟩) (by assumption) ?rb12
        case hb12 => (intro w0 hSw; (try dsimp only at hSw); go_simp; try (with_reducible rfl))
        simp only [Act.put, List.setIfInBounds_toArray, List.set_cons_zero, List.set_cons_succ]
        refine wpAnyH_take (i := 13) (oi := { dst := some 46, op := Op.indexAddr 63 (Operand.tmp 44) (Operand.tmp 45), type := 0, pos := "plain.go:113", after := #[{ on := 11, ground := Ground.data }, { on := 12, ground := Ground.data }, { on := 5, ground := Ground.guard }], guard := some (5, true) }) (v := ?vb13) rfl (by kernel_rfl) (by kernel_rfl) (by kernel_rfl) (fun _ _ _ h => h) (Or.inl ⟨by rfl, ?hb13⟩) (by assumption) ?rb13
        case hb13 => (intro w0 hSw; (try dsimp only at hSw); go_simp; try (with_reducible rfl))
        simp only [Act.put, List.setIfInBounds_toArray, List.set_cons_zero, List.set_cons_succ]
        refine wpAnyH_take (i := 14) (oi := { dst := some 47, op := Op.load 9 (Operand.tmp 46), type := 9, pos := "plain.go:113", after := #[{ on := 13, ground := Ground.data }, { on := 5, ground := Ground.guard }], guard := some (5, true) }) (v := ?vb14) rfl (by kernel_rfl) (by kernel_rfl) (by kernel_rfl) (fun _ _ _ h => h) (Or.inl ⟨by rfl, ?hb14⟩) (by assumption) ?rb14
        case hb14 => (intro w0 hSw; (try dsimp only at hSw); go_simp; try (with_reducible rfl))
        simp only [Act.put, List.setIfInBounds_toArray, List.set_cons_zero, List.set_cons_succ]
        refine wpAnyH_take (i := 15) (oi := { dst := some 48, op := Op.binOp BinOp.geq 9 (Operand.tmp 43) (Operand.tmp 47) 9, type := 4, pos := "plain.go:113", after := #[{ on := 10, ground := Ground.data }, { on := 14, ground := Ground.data }, { on := 5, ground := Ground.guard }], guard := some (5, true) }) (v := ?vb15) rfl (by kernel_rfl) (by kernel_rfl) (by kernel_rfl) (fun _ _ _ h => h) (Or.inl ⟨by rfl, ?hb15⟩) (by assumption) ?rb15
        case hb15 => (intro w0 hSw; (try dsimp only at hSw); go_simp; try (with_reducible rfl))
        simp only [Act.put, List.setIfInBounds_toArray, List.set_cons_zero, List.set_cons_succ]
        refine wpAnyH_take (i := 16) (oi := { dst := some 49, op := Op.pick (Operand.tmp 38) (Operand.tmp 48) (Operand.const (Value.bool false)), type := 4, pos := "plain.go:113", after := #[{ on := 5, ground := Ground.data }, { on := 15, ground := Ground.data }, { on := 2, ground := Ground.guard }], guard := some (2, false) }) (v := ?vb16) rfl (by kernel_rfl) (by kernel_rfl) (by kernel_rfl) (fun _ _ _ h => h) (Or.inl ⟨by rfl, ?hb16⟩) (by assumption) ?rb16
        case hb16 => (intro w0 hSw; (try dsimp only at hSw); go_simp; try (with_reducible rfl))
        simp only [Act.put, List.setIfInBounds_toArray, List.set_cons_zero, List.set_cons_succ]
        refine wpAnyH_take (i := 17) (oi := { dst := some 50, op := Op.pick (Operand.tmp 35) (Operand.const (Value.bool true)) (Operand.tmp 49), type := 4, pos := "plain.go:113", after := #[{ on := 2, ground := Ground.data }, { on := 16, ground := Ground.data }], guard := none }) (v := ?vb17) rfl (by kernel_rfl) (by kernel_rfl) (by kernel_rfl) (fun _ _ _ h => h) (Or.inl ⟨by rfl, ?hb17⟩) (by assumption) ?rb17
        case hb17 => (intro w0 hSw; (try dsimp only at hSw); go_simp; try (with_reducible rfl))
        simp only [Act.put, List.setIfInBounds_toArray, List.set_cons_zero, List.set_cons_succ]
        refine wpAnyH_done (by kernel_rfl) ?_ _
        go_wp2_with fail
        refine hRd.mono ?_
        rintro r w5 ⟨rfl, rfl⟩
        go_wp2_with fail
        refine hSz.mono ?_
        rintro r w6 ⟨rfl, rfl⟩
        go_wp2
        exact ⟨⟨n + 1, rfl, hlt, by rw [HU.out]; simp [used], hbD⟩, by simp only [intOf]; omega⟩
    · have hne : n = es.length := by omega
      subst hne
      have HE := HR.out wr (chain b1 hb (Nat.le_refl _))
      have hR := Hid.mk HE
      have hU := used_any wr dr
      have hRm := room_any wr dr
      have hf2 : used es ≤ c.cap := HF.out.1
      rw [List.take_length]
      have hf3 : (used es : Int) ≤ (c.cap : Int) := by omega
      clear HE HR h1 hr h hN d
      go_wp2_with fail
      refine hU.mono ?_
      rintro r w' ⟨rfl, rfl⟩
      go_wp2_with fail
      refine hRm.mono ?_
      rintro r w' ⟨rfl, rfl⟩
      go_wp2
      exact hR.out
end Go.Proofs.Ythpppinplnkkhaa
