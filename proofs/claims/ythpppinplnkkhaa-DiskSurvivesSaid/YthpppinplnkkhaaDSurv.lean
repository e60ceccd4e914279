/-
  DERIVED. DiskSurvives' walk.
-/
import Derived.Test.YthpppinplnkkhaaDSurv0
import Derived.Test.YthpppinplnkkhaaDHoldsW
import Derived.Test.YthpppinplnkkhaaDKeptW
import Derived.Deep.RegionHeld
set_option linter.unusedVariables false
set_option linter.unusedSimpArgs false
set_option linter.unnecessarySimpa false
namespace Go.Proofs.Ythpppinplnkkhaa
open Go.RowKit Go.Maps Go.Proofs.DiskMath
/-- What done came to. -/
def DoneO (s : Stp) (W : World) (p mb : Nat) (es : List Ent) (c : Ctl) (r : Ending) (w' : World) : Prop :=
  (∃ E : Int, r = .returned (.int .i64 E) ∧ E ≠ 0 ∧ (E = 45 ↔ c.off = true) ∧ Step W w' p mb es es c) ∨ (∃ es', r = .returned (.int .i64 (okE c)) ∧ c.off = false ∧ effE s es c es' ∧ Step W w' p mb es es' (tick c))
theorem done_o {p mb : Nat} {es : List Ent} {c : Ctl} (s : Stp) (ho : StpOk s) (w : World) (h : DK w p mb es c) : Calls Try.prog 10 #[Pt p, .agg (stpC s)] w (DoneO s w p mb es c) :=
  done_any s ho w h _ (fun E w' h1 h2 st => .inl ⟨E, rfl, h1, h2, st⟩) (fun w' es' h1 h2 st => .inr ⟨es', rfl, h1, h2, st⟩)
theorem KL.frz {B : Nat} {W : World} {g n cap : Nat} {K : List Fl} (h : KL B W (.slice (some ⟨g, 0, none⟩) n cap) K) (j : Nat) : W.frozen? ⟨g, j, none⟩ = false := by
  rcases h.2 with ⟨h0, _⟩ | ⟨g', cap', cur, h0, _, hg, _⟩
  · simp at h0
  · simp only [Value.slice.injEq, Option.some.injEq, Addr.mk.injEq] at h0
    obtain ⟨⟨rfl, -, -⟩, -, -⟩ := h0
    simp [World.frozen?, hg]
theorem arm_off (c : Ctl) (n : Int) (b : Bool) : (armC c n b).off = c.off := by unfold armC; split <;> rfl
theorem mix_at {K : List Fl} {F : Fl → Fl} {k : Nat} (hk : k < K.length) : ∃ h, ((K.take k).map F ++ K.drop k)[k]'h = K[k] := by
  have hl : ((K.take k).map F ++ K.drop k).length = K.length := by simp; omega
  refine ⟨by omega, ?_⟩
  rw [List.getElem_append_right (by simp; omega)]
  simp
  congr 1
  omega
theorem mix_set {K : List Fl} {F : Fl → Fl} {k : Nat} (hk : k < K.length) : ((K.take k).map F ++ K.drop k).set k (F K[k]) = (K.take (k + 1)).map F ++ K.drop (k + 1) := by
  rw [List.set_append_right _ _ (by simp; omega)]
  have e1 : k - ((K.take k).map F).length = 0 := by simp; omega
  rw [e1, List.drop_eq_getElem_cons hk, List.set_cons_zero, List.take_succ_eq_append_getElem hk, List.map_append, List.append_assoc]
  rfl
set_option maxHeartbeats 16000000 in
set_option maxRecDepth 100000 in
theorem survives_walk (cap : Int) (a : Option Addr) (ss : List Stp) (sc : Nat) (w : World) (hok : ∀ i (hi : i < ss.length), StpOk ss[i]) (hlen : ss.length < 9223372036854775808) (hsc : ∀ W, Below w.heap.size w W → Scr W a ss) (R : Ending → World → Prop)
    (h1 : ∀ w', Below w.heap.size w w' → R (.returned (.bool true)) w') : Calls Try.prog 3 #[.int .i64 cap, .slice a ss.length sc] w R := by
  have HR := Hid.mk h1
  clear h1
  by_cases t1 : cap < 0
  · go_enter Try.func3, Try.ntmps3
    go_wp2_with fail
    refine begun_any w _ ?_
    intro w1 b1
    have hR := Hid.mk (HR.out _ b1)
    clear HR hsc
    go_wp2_with fail
    refine new_any _ w1 _ ?_ (fun h0 h1 => by omega)
    intro _
    go_wp2
    exact hR.out
  by_cases t2 : 1073741824 < cap
  · go_enter Try.func3, Try.ntmps3
    go_wp2_with fail
    refine begun_any w _ ?_
    intro w1 b1
    have hR := Hid.mk (HR.out _ b1)
    clear HR hsc
    go_wp2_with fail
    refine new_any _ w1 _ ?_ (fun h0 h1 => by omega)
    intro _
    go_wp2
    exact hR.out
  go_enter Try.func3, Try.ntmps3
  go_wp2_with fail
  refine begun_any w _ ?_
  intro w1 b1
  go_wp2_with fail
  refine new_any _ w1 _ (fun hc => by omega) ?_
  intro _ _ w2 d2 b2
  have o2 := SI.start (Ow.new b1 d2 b2)
  have hp1 : w.heap.size ≤ w1.heap.size := b1.size
  clear b1 d2 b2
  generalize hpp : w1.heap.size + 1 = p at *
  generalize w1.heap.size = mb at *
  clear hpp
  go_wp2
  go_loopw [7, 8, 9, 10] (fun lv av dv iv wr => ∃ (i : Nat) (es : List Ent) (c : Ctl) (K : List Fl) (ar dn : Bool), iv = .int .i64 i ∧ i ≤ ss.length ∧ av = .bool ar ∧ dv = .bool dn ∧ SI w wr p mb es c lv K ar dn) (fun _ _ _ iv _ => ss.length - (intOf iv).toNat)
  case atStart => exact ⟨0, _, _, [], false, false, rfl, Nat.zero_le _, rfl, rfl, o2⟩
  case round =>
    obtain ⟨i, es, c, K, ar, dn, rfl, hi, rfl, rfl, ho⟩ := hrel
    clear o2
    obtain ⟨la, lc, hlv⟩ := own_form ho.kl
    subst hlv
    have hKl : K.length ≤ 8192 := by have := ho.pm.length_eq; rw [List.length_map] at this; have := ho.ow.dk.many; omega
    by_cases hlt : i < ss.length
    · obtain ⟨b, o, rfl, hcell⟩ := (hsc wr ho.ow.bel).at_ i hlt
      have hokI := hok i hlt
      have hcutI := fun (W : World) (es : List Ent) (c : Ctl) (h : Ow w W p mb es c) => ow_cuts h hsc i hlt
      generalize ss[i] = s at *
      have d0 := hcell 0 (by omega)
      have d1 := hcell 1 (by omega)
      have d2 := hcell 2 (by omega)
      have d3 := hcell 3 (by omega)
      have d4 := hcell 4 (by omega)
      have d5 := hcell 5 (by omega)
      have d6 := hcell 6 (by omega)
      have d7 := hcell 7 (by omega)
      simp only [stpC, List.getElem?_toArray, List.getElem?_cons_zero, List.getElem?_cons_succ, Nat.add_zero] at d0 d1 d2 d3 d4 d5 d6 d7
      have oA := ho.more ((Below.refl _ wr).alloc (Nat.le_refl _) (.cells (stpC s) 29))
      have hbx : (wr.alloc (.cells (stpC s) 29)).heap[wr.heap.size]? = some (.cells (stpC s) 29 (0, 0)) := heap_alloc_new wr _
      have hnf : ¬ Foot p mb es wr.heap.size := fun hF => by have := ho.ow.dk.lt hF; omega
      have hgH : ∀ k, (Value.slice la K.length lc).ownBlock = some k → k < wr.heap.size := fun k hk => (World.ownsRow.lt ho.kl k hk).2
      have hhs : wr.heap.size < (wr.alloc (.cells (stpC s) 29)).heap.size := by simp
      have HSC := Hid.mk hsc
      have HCU := Hid.mk hcutI
      clear hcell hsc hcutI
      by_cases e8 : s.do_ = 8
      · as_aux_lemma =>
          have hop := fun (R2 : Ending → World → Prop) => arm_any 1 s.dn _ oA.ow.dk (by decide) (by decide) R2
          have cx : ∀ {w' : World}, Step (wr.alloc (.cells (stpC s) 29)) w' p mb es es (armC c 1 s.dn) → w'.cell? ⟨wr.heap.size, 6, none⟩ = some (.bool s.dn) := fun st => step_cell st hnf (by unfold World.cell?; rw [hbx]; rfl)
          have oX : ∀ {w' : World}, Step (wr.alloc (.cells (stpC s) 29)) w' p mb es es (armC c 1 s.dn) → SI w w' p mb es (armC c 1 s.dn) (.slice la K.length lc) K (!c.off) s.dn := fun st => oA.arm s.dn st
          unfold stpC at hop cx oX
          rw [e8] at d0 hop
          simp only [e8] at cx oX
          have HX := Hid.mk (And.intro @cx @oX)
          clear oA hbx cx oX HCU hok
          go_wp2_with fail
          refine hop _ ?_
          intro w3 st3
          have c6 := HX.out.1 st3
          have o3 := HX.out.2 st3
          have hao := arm_off c 1 s.dn
          clear hop HX st3 hnf hgH hhs d0 d1 d2 d3 d4 d5 d6 d7
          generalize armC c 1 s.dn = C at *
          generalize wr.heap.size = H at *
          cases hco : c.off
          · rw [hco] at o3 hao
            clear hco
            simp only [Bool.not_false] at o3
            go_wp2_with fail
            refine (down_any w3 o3.ow.dk).mono ?_
            rw [hao]
            rintro r w4 ⟨rfl, rfl⟩
            go_wp2_with fail
            refine (down_any w4 o3.ow.dk).mono ?_
            rw [hao]
            rintro r w5 ⟨rfl, rfl⟩
            go_wp2_with fail
            refine holds_any _ o3.ow.dk hao o3.kl o3.pm _ (fun wz bz => ?_)
            have oz := o3.more bz
            clear HR
            go_wp2
            exact ⟨⟨i + 1, _, _, _, _, _, rfl, hlt, rfl, rfl, oz⟩, by simp only [intOf]; omega⟩
          · rw [hco] at o3 hao
            clear hco
            simp only [Bool.not_true] at o3
            go_wp2_with fail
            refine (down_any w3 o3.ow.dk).mono ?_
            rw [hao]
            rintro r w4 ⟨rfl, rfl⟩
            go_wp2_with fail
            refine (down_any w4 o3.ow.dk).mono ?_
            rw [hao]
            rintro r w5 ⟨rfl, rfl⟩
            go_wp2
            exact ⟨⟨i + 1, _, _, _, _, _, rfl, hlt, rfl, rfl, o3⟩, by simp only [intOf]; omega⟩
      by_cases e9 : s.do_ = 9
      · as_aux_lemma =>
          have hop := fun (R2 : Ending → World → Prop) => crash_any s.ca s.cs s.cc _ oA.ow.dk (HCU.out _ _ _ oA.ow) hokI.len hokI.cs R2
          have HX : Hid (∀ w' es', Step (wr.alloc (.cells (stpC s) 29)) w' p mb es es' (crashC c) → w'.cell? ⟨wr.heap.size, 7, none⟩ = some (.slice s.ca s.cs.length s.cc) ∧ Ow w w' p mb es' (crashC c) ∧ KL w.heap.size w' (.slice la K.length lc) K) := fun w' es' st => ⟨step_cell st hnf (by unfold World.cell?; rw [hbx]; rfl), oA.ow.step st, oA.kl.step oA.ow.dk st⟩
          have HK : Hid (∀ f ∈ K, f.da.length ≤ 268435456 ∧ f.du ≤ f.da.length) := fun f hf => by
            obtain ⟨e, he, rfl⟩ := List.mem_map.1 (ho.pm.mem_iff.1 hf)
            exact ⟨(ho.ow.dk.hf e he).da, (ho.ow.dk.hf e he).du⟩
          have HP := Hid.mk (And.intro (fun e he => (ho.ow.dk.hf e he).du) ho.pm)
          unfold stpC at hop HX
          rw [e9] at d0 hop
          simp only [e9] at HX
          clear oA hbx hok
          go_wp2_with fail
          refine hop _ ?_
          intro w3 es3 st3 hf3
          obtain ⟨c7, o3, k3⟩ := HX.out w3 es3 st3
          have HF := Hid.mk hf3
          have HGH := Hid.mk hgH
          clear hop HX st3 hf3 hnf hgH hhs d0 d1 d2 d3 d4 d5 d6 d7 ho
          generalize wr.heap.size = H at *
          go_wp2
          go_loopw [12] (fun kv wq => ∃ k : Nat, kv = .int .i64 k ∧ k ≤ K.length ∧ KL w.heap.size wq (.slice la K.length lc) ((K.take k).map (fun f => loseF f (firstC s.cs f.nm).1 (firstC s.cs f.nm).2) ++ K.drop k) ∧ Ow w wq p mb es3 (crashC c) ∧ wq.cell? ⟨H, 7, none⟩ = some (.slice s.ca s.cs.length s.cc)) (fun kv _ => K.length - (intOf kv).toNat)
          case atStart => exact ⟨0, rfl, Nat.zero_le _, by simpa using k3, o3, c7⟩
          case round =>
            obtain ⟨k, rfl, hk, kq, oq, cq⟩ := hrel
            obtain ⟨wq, rfl⟩ : ∃ wq, wq = wr := ⟨_, rfl⟩
            clear o3 k3 c7
            by_cases hkl : k < K.length
            · obtain ⟨hm0, hm1⟩ := mix_at (F := fun f => loseF f (firstC s.cs f.nm).1 (firstC s.cs f.nm).2) hkl
              obtain ⟨g, cg, hvg, q0, q1, q2⟩ := kq.cell k hm0
              simp only [Value.slice.injEq] at hvg
              obtain ⟨rfl, hml, rfl⟩ := hvg
              rw [hm1] at q0 q1 q2
              have hgl : g < H := HGH.out g rfl
              have z0 : ∀ j, wq.frozen? ⟨g, j, none⟩ = false := fun j => kq.frz j
              have hkep := fun (W : World) (hW : Below wq.heap.size wq W) (R2 : Ending → World → Prop) => kept_any K[k] s.ca s.cs s.cc W (fun W' hW' => HCU.out _ _ _ oq W' (Stay.below (chain hW hW' (Nat.le_refl _)))) (fun j hj => (hokI.cs j hj).2) hokI.len (HK.out _ (List.getElem_mem hkl)).1 (HK.out _ (List.getElem_mem hkl)).2 R2
              have HN : Hid (∀ w5 : World, Below wq.heap.size wq w5 → ∀ (x : Fl), x = loseF K[k] (firstC s.cs (K[k]).nm).1 (firstC s.cs (K[k]).nm).2 → KL w.heap.size (((w5.setCell ⟨g, k * 3, none⟩ (encStr x.nm)).setCell ⟨g, k * 3 + 1, none⟩ (encStr x.da)).setCell ⟨g, k * 3 + 2, none⟩ (.int .i64 x.du)) (.slice (some ⟨g, 0, none⟩) K.length lc) ((K.take (k + 1)).map (fun f => loseF f (firstC s.cs f.nm).1 (firstC s.cs f.nm).2) ++ K.drop (k + 1)) ∧ Ow w (((w5.setCell ⟨g, k * 3, none⟩ (encStr x.nm)).setCell ⟨g, k * 3 + 1, none⟩ (encStr x.da)).setCell ⟨g, k * 3 + 2, none⟩ (.int .i64 x.du)) p mb es3 (crashC c) ∧ (((w5.setCell ⟨g, k * 3, none⟩ (encStr x.nm)).setCell ⟨g, k * 3 + 1, none⟩ (encStr x.da)).setCell ⟨g, k * 3 + 2, none⟩ (.int .i64 x.du)).cell? ⟨H, 7, none⟩ = some (.slice s.ca s.cs.length s.cc)) := fun w5 b5 x hx => by
                have k5 : KL w.heap.size w5 (.slice (some ⟨g, 0, none⟩) K.length lc) _ := row_below kq b5
                have st : Stay (fun k => (Value.slice (some ⟨g, 0, none⟩) K.length lc).ownBlock = some k) w5 (((w5.setCell ⟨g, k * 3, none⟩ (encStr x.nm)).setCell ⟨g, k * 3 + 1, none⟩ (encStr x.da)).setCell ⟨g, k * 3 + 2, none⟩ (.int .i64 x.du)) := by refine Stay.setCell (Stay.setCell (Stay.setCell (Stay.refl _ w5) (fun _ => ?_) _) (fun _ => ?_) _) (fun _ => ?_) _ <;> rfl
                have k6 := KL.set3 k5 k hm0 x
                have e6 := mix_set (F := fun f => loseF f (firstC s.cs f.nm).1 (firstC s.cs f.nm).2) hkl
                try dsimp only at e6
                rw [← hx] at e6
                rw [e6] at k6
                have cq5 := cell_later b5 cq
                exact ⟨k6, (oq.more b5).told k5 ⟨k6, st⟩, (World.cell?_of_block (st.block H (World.block_lt_of_cell? _ _ cq5) (fun hh => by have hgh : g = H := (by simpa [Value.ownBlock] using hh); omega))).trans cq5⟩
              obtain ⟨x, hx⟩ : ∃ x, x = loseF K[k] (firstC s.cs (K[k]).nm).1 (firstC s.cs (K[k]).nm).2 := ⟨_, rfl⟩
              rw [← hx] at hkep
              have HX := Hid.mk hx
              have HKP := Hid.mk hkep
              clear hkep hx hm1 hm0 hml HCU kq oq
              generalize hNM : (⟨(K[k]).nm.toArray⟩ : ByteArray) = NM at *
              generalize hDA : (⟨(K[k]).da.toArray⟩ : ByteArray) = DA at *
              generalize hDU : (K[k]).du = DU at *
              go_wp2_with fail
              refine wp_region_held_drew (S := fun w' => w'.cell? ⟨H, 7, none⟩ = some (.slice s.ca s.cs.length s.cc)) (by kernel_rfl) ?_ (fun hHeld => ?_)
              · exact cq
              refine wpAnyH_take (i := 0) (oi := { dst := some 74, op := Op.move (Operand.tmp 7), type := 26, pos := "plain.go:175", after := #[], guard := none }) (v := ?v0) rfl (by kernel_rfl) (by kernel_rfl) (by kernel_rfl) (fun _ _ _ h => h) (Or.inl ⟨by rfl, ?h0⟩) (by assumption) ?r0
              case h0 => (intro w0 hSw; (try dsimp only at hSw); go_simp; try (with_reducible rfl))
              simp only [Act.put, List.setIfInBounds_toArray, List.set_cons_zero, List.set_cons_succ]
              refine wpAnyH_take (i := 1) (oi := { dst := some 75, op := Op.move (Operand.tmp 12), type := 3, pos := "plain.go:175", after := #[], guard := none }) (v := ?v1) rfl (by kernel_rfl) (by kernel_rfl) (by kernel_rfl) (fun _ _ _ h => h) (Or.inl ⟨by rfl, ?h1⟩) (by assumption) ?r1
              case h1 => (intro w0 hSw; (try dsimp only at hSw); go_simp; try (with_reducible rfl))
              simp only [Act.put, List.setIfInBounds_toArray, List.set_cons_zero, List.set_cons_succ]
              refine wpAnyH_take (i := 2) (oi := { dst := some 76, op := Op.move (Operand.tmp 7), type := 26, pos := "plain.go:175", after := #[], guard := none }) (v := ?v2) rfl (by kernel_rfl) (by kernel_rfl) (by kernel_rfl) (fun _ _ _ h => h) (Or.inl ⟨by rfl, ?h2⟩) (by assumption) ?r2
              case h2 => (intro w0 hSw; (try dsimp only at hSw); go_simp; try (with_reducible rfl))
              simp only [Act.put, List.setIfInBounds_toArray, List.set_cons_zero, List.set_cons_succ]
              refine wpAnyH_take (i := 3) (oi := { dst := some 77, op := Op.move (Operand.tmp 12), type := 3, pos := "plain.go:175", after := #[], guard := none }) (v := ?v3) rfl (by kernel_rfl) (by kernel_rfl) (by kernel_rfl) (fun _ _ _ h => h) (Or.inl ⟨by rfl, ?h3⟩) (by assumption) ?r3
              case h3 => (intro w0 hSw; (try dsimp only at hSw); go_simp; try (with_reducible rfl))
              simp only [Act.put, List.setIfInBounds_toArray, List.set_cons_zero, List.set_cons_succ]
              refine wpAnyH_take (i := 4) (oi := { dst := some 78, op := Op.indexAddr 26 (Operand.tmp 76) (Operand.tmp 77), type := 0, pos := "plain.go:175", after := #[{ on := 2, ground := Ground.data }, { on := 3, ground := Ground.data }], guard := none }) (v := ?v4) rfl (by kernel_rfl) (by kernel_rfl) (by kernel_rfl) (fun _ _ _ h => h) (Or.inl ⟨by rfl, ?h4⟩) (by assumption) ?r4
              case h4 => (intro w0 hSw; (try dsimp only at hSw); go_simp; try (with_reducible rfl))
              simp only [Act.put, List.setIfInBounds_toArray, List.set_cons_zero, List.set_cons_succ]
              refine wpAnyH_take (i := 6) (oi := { dst := some 80, op := Op.fieldAddr 29 (Operand.tmp 11) 7, type := 0, pos := "plain.go:175", after := #[], guard := none }) (v := ?v6) rfl (by kernel_rfl) (by kernel_rfl) (by kernel_rfl) (fun _ _ _ h => h) (Or.inl ⟨by rfl, ?h6⟩) (by assumption) ?r6
              case h6 => (intro w0 hSw; (try dsimp only at hSw); go_simp; try (with_reducible rfl))
              simp only [Act.put, List.setIfInBounds_toArray, List.set_cons_zero, List.set_cons_succ]
              refine wpAnyH_take (i := 7) (oi := { dst := some 81, op := Op.load 27 (Operand.tmp 80), type := 27, pos := "plain.go:175", after := #[{ on := 6, ground := Ground.data }], guard := none }) (v := ?v7) rfl (by kernel_rfl) (by kernel_rfl) (by kernel_rfl) (fun _ _ _ h => h) (Or.inl ⟨by rfl, ?h7⟩) (by assumption) ?r7
              case h7 => (intro w0 hSw; (try dsimp only at hSw); go_simp; try (with_reducible rfl))
              simp only [Act.put, List.setIfInBounds_toArray, List.set_cons_zero, List.set_cons_succ]
              refine wpAnyH_ready (rs := [5]) (by kernel_rfl) (by simp) ?_
              refine AllReadyH.cons rfl (fun K0 hK0 => ?_) AllReadyH.nil
              go_simp
              refine hK0.out _ _ ?_ (fun hHeld => ?_)
              · exact cq
              clear hK0 K0
              refine wpAnyH_ready (rs := [8]) (by kernel_rfl) (by simp) ?_
              refine AllReadyH.cons rfl (fun K0 hK0 => ?_) AllReadyH.nil
              go_simp
              go_at_call 9
              refine HKP.out _ (b_d wq) _ ?_
              intro w5 b5
              have b5' : Below wq.heap.size wq w5 := chain (b_d wq) b5 (Nat.le_refl _)
              rw [show (kC x).toArray = #[encStr x.nm, encStr x.da, .int .i64 x.du] from rfl]
              obtain ⟨kn, on, cn⟩ := HN.out w5 b5' x HX.out
              have cq5 := cell_later b5' cq
              have y0 := cell_later b5' q0
              have y1 := cell_later b5' q1
              have y2 := cell_later b5' q2
              have y3 : ∀ j, w5.frozen? ⟨g, j, none⟩ = false := fun j => by have hbl := b5'.block g (World.block_lt_of_cell? _ _ q0); have := z0 j; simpa [World.frozen?, hbl] using this
              clear HN HKP q0 q1 q2 z0
              go_wp2_with fail
              refine hK0.out _ _ ?_ (fun hHeld => ?_)
              · exact cq5
              clear hK0 K0
              refine wpAnyH_take (i := 9) (oi := { dst := some 83, op := Op.indexAddr 26 (Operand.tmp 74) (Operand.tmp 75), type := 0, pos := "plain.go:175", after := #[{ on := 0, ground := Ground.data }, { on := 1, ground := Ground.data }, { on := 0, ground := Ground.phase }, { on := 1, ground := Ground.phase }, { on := 2, ground := Ground.phase }, { on := 3, ground := Ground.phase }, { on := 4, ground := Ground.phase }, { on := 5, ground := Ground.phase }, { on := 6, ground := Ground.phase }, { on := 7, ground := Ground.phase }, { on := 8, ground := Ground.phase }], guard := none }) (v := ?v9) rfl (by kernel_rfl) (by kernel_rfl) (by kernel_rfl) (fun _ _ _ h => h) (Or.inl ⟨by rfl, ?h9⟩) (by assumption) ?r9
              case h9 => (intro w0 hSw; (try dsimp only at hSw); go_simp; try (with_reducible rfl))
              simp only [Act.put, List.setIfInBounds_toArray, List.set_cons_zero, List.set_cons_succ]
              refine wpAnyH_ready (rs := [10]) (by kernel_rfl) (by simp) ?_
              refine AllReadyH.cons rfl (fun K0 hK0 => ?_) AllReadyH.nil
              go_simp
              refine hK0.out _ _ ?_ (fun hHeld => ?_)
              · exact cn
              clear hK0 K0
              refine wpAnyH_done (by kernel_rfl) ?_ _
              go_wp2
              exact ⟨⟨k + 1, rfl, hkl, kn, on, cn⟩, by simp only [intOf]; omega⟩
            · have hke : k = K.length := by omega
              subst hke
              rw [List.take_length, List.drop_length, List.append_nil] at kq
              have o3 := SI.crash dn HP.out.1 HP.out.2 oq HF.out kq
              have hao : (crashC c).off = false := rfl
              clear HP HF kq oq cq HCU HK
              generalize crashC c = C at *
              generalize (K.map fun f => loseF f (firstC s.cs f.nm).1 (firstC s.cs f.nm).2) = K3 at *
              go_wp2_with fail
              refine (down_any wq o3.ow.dk).mono ?_
              rw [hao]
              rintro r w5 ⟨rfl, rfl⟩
              go_wp2_with fail
              refine holds_any _ o3.ow.dk hao o3.kl o3.pm _ (fun wz bz => ?_)
              have oz := o3.more bz
              clear HR
              go_wp2
              exact ⟨⟨i + 1, _, _, _, _, _, rfl, hlt, rfl, rfl, oz⟩, by simp only [intOf]; omega⟩
      by_cases e1 : s.do_ = 1
      · as_aux_lemma =>
          have hop := done_o s hokI _ oA.ow.dk
          have HX : Hid (∀ w' es', Step (wr.alloc (.cells (stpC s) 29)) w' p mb es es' (tick c) → effE s es c es' → Goes s c → Calls Try.prog 11 #[.slice la K.length lc, .agg (stpC s)] w' (fun r w'' => ∃ v' K', r = .returned (.tuple #[v', .bool true]) ∧ SI w w'' p mb es' (tick c) v' K' false dn ∧ ∃ a n cap, v' = .slice a n cap)) := fun w' es' st hef hg => oA.told s (by omega) (by omega) st hef hg
          have HB : Hid (∀ w' es' c', Step (wr.alloc (.cells (stpC s) 29)) w' p mb es es' c' → w'.heap[wr.heap.size]? = some (.cells (stpC s) 29 (0, 0))) := fun w' es' c' st => (st.stay.block _ hhs hnf).trans hbx
          have HO := Hid.mk oA
          have hdk := oA.ow.dk
          unfold stpC at hop HX HB HO hdk
          rw [e1] at d0 hop
          simp only [e1] at HX HB HO hdk
          clear oA hbx hok HCU hgH
          have hAr := ho.fl
          clear ho
          go_wp2_with fail
          refine (down_any _ hdk).mono ?_
          rintro r w3 ⟨rfl, rfl⟩
          go_wp2_with fail
          refine hop.mono ?_
          clear hop
          rintro r w4 (⟨E, rfl, hE, h45, st⟩ | ⟨es', rfl, hoff, hef, st⟩)
          · have o4 := HO.out.no st
            clear HX HO st hdk hnf hhs d0 d1 d2 d3 d4 d5 d6 d7 HB
            generalize wr.heap.size = H at *
            cases hco : c.off
            · have hx : E ≠ 45 := fun e => by rw [hco] at h45; exact Bool.noConfusion (h45.1 e)
              have g1 : (E == 0) = false := by simpa using hE
              have g2 : (E != 0) = true := by simpa using hE
              have g3 : (E == 45) = false := by simpa using hx
              have g4 : (E != 45) = true := by simpa using hx
              have hao := hco
              clear hE hx h45 hAr
              cases ar
              · go_wp2_with fail
                refine (down_any w4 o4.ow.dk).mono ?_
                rw [hao]
                rintro r w5 ⟨rfl, rfl⟩
                go_wp2_with fail
                refine holds_any _ o4.ow.dk hao o4.kl o4.pm _ (fun wz bz => ?_)
                have oz := o4.more bz
                clear HR
                go_wp2
                exact ⟨⟨i + 1, _, _, _, _, _, rfl, hlt, rfl, rfl, oz⟩, by simp only [intOf]; omega⟩
              · go_wp2_with fail
                refine (down_any w4 o4.ow.dk).mono ?_
                rw [hao]
                rintro r w5 ⟨rfl, rfl⟩
                go_wp2_with fail
                refine holds_any _ o4.ow.dk hao o4.kl o4.pm _ (fun wz bz => ?_)
                have oz := o4.more bz
                clear HR
                go_wp2
                exact ⟨⟨i + 1, _, _, _, _, _, rfl, hlt, rfl, rfl, oz⟩, by simp only [intOf]; omega⟩
            · have hx : E = 45 := h45.2 hco
              subst hx
              have hao := hco
              cases ar
              · clear hE h45 hAr
                go_wp2_with fail
                refine (down_any w4 o4.ow.dk).mono ?_
                rw [hao]
                rintro r w5 ⟨rfl, rfl⟩
                go_wp2
                exact ⟨⟨i + 1, _, _, _, _, _, rfl, hlt, rfl, rfl, o4⟩, by simp only [intOf]; omega⟩
              · exact absurd ((hAr.1 rfl).2.1) (by rw [hco]; simp)
          · have hb4 := HB.out w4 _ _ st
            have c0 : w4.cell? ⟨wr.heap.size, 0, none⟩ = some (.int .i64 1) := by simp [World.cell?, hb4]
            have c1 : w4.cell? ⟨wr.heap.size, 1, none⟩ = some (.string s.nm) := by simp [World.cell?, hb4]
            have c2 : w4.cell? ⟨wr.heap.size, 2, none⟩ = some (.string s.to) := by simp [World.cell?, hb4]
            have c3 : w4.cell? ⟨wr.heap.size, 3, none⟩ = some (.string s.da) := by simp [World.cell?, hb4]
            have c4 : w4.cell? ⟨wr.heap.size, 4, none⟩ = some (.int .i64 s.at_) := by simp [World.cell?, hb4]
            have c5 : w4.cell? ⟨wr.heap.size, 5, none⟩ = some (.int .i64 s.n) := by simp [World.cell?, hb4]
            have c6 : w4.cell? ⟨wr.heap.size, 6, none⟩ = some (.bool s.dn) := by simp [World.cell?, hb4]
            have c7 : w4.cell? ⟨wr.heap.size, 7, none⟩ = some (.slice s.ca s.cs.length s.cc) := by simp [World.cell?, hb4]
            skip
            cases ar
            · have hl : c.left = 0 := hAr.2 rfl
              have hk0 : okE c = 0 := by unfold okE; rw [hl]; rfl
              have hao : (tick c).off = false := by show (c.left == 1) = false; rw [hl]; rfl
              have hg : Goes s c := .inl (by omega)
              rw [hk0, hoff]
              clear hk0 hl
              have hT := HX.out w4 es' st hef hg
              clear HX HO HB hb4 st hdk hnf hhs hef hg hAr d0 d1 d2 d3 d4 d5 d6 d7
              generalize wr.heap.size = H at *
              go_wp2_with fail
              refine hT.mono ?_
              rintro r w5 ⟨v', K', rfl, o5, a', n', cap', rfl⟩
              clear hT c0 c1 c2 c3 c4 c5 c6 c7
              go_wp2_with fail
              refine (down_any w5 o5.ow.dk).mono ?_
              rw [hao]
              rintro r w6 ⟨rfl, rfl⟩
              go_wp2_with fail
              refine holds_any _ o5.ow.dk hao o5.kl o5.pm _ (fun wz bz => ?_)
              have oz := o5.more bz
              clear HR
              go_wp2
              exact ⟨⟨i + 1, _, _, _, _, _, rfl, hlt, rfl, rfl, oz⟩, by simp only [intOf]; omega⟩
            · obtain ⟨hl, -, hdn⟩ := hAr.1 rfl
              have hk0 : okE c = 45 := by unfold okE; rw [if_pos hl]
              have hao : (tick c).off = true := by show (c.left == 1) = true; rw [hl]; rfl
              rw [hk0, hoff]
              clear hk0
              cases dn
              · have HDN : s.do_ = 3 ∨ c.dn = false := .inr hdn.symm
                have hes := eff_not hef (by omega) hl (HDN)
                subst hes
                have o4 := HO.out.lost st
                clear HX HO HB hb4 st hdk hnf hhs hef hAr d0 d1 d2 d3 d4 d5 d6 d7 HDN hl hdn
                generalize wr.heap.size = H at *
                go_wp2_with fail
                refine (down_any w4 o4.ow.dk).mono ?_
                rw [hao]
                rintro r w5 ⟨rfl, rfl⟩
                go_wp2
                exact ⟨⟨i + 1, _, _, _, _, _, rfl, hlt, rfl, rfl, o4⟩, by simp only [intOf]; omega⟩
              · have hg : Goes s c := .inr (.inr ⟨by omega, hdn.symm⟩)
                clear hl hdn
                have hT := HX.out w4 es' st hef hg
                clear HX HO HB hb4 st hdk hnf hhs hef hg hAr d0 d1 d2 d3 d4 d5 d6 d7
                generalize wr.heap.size = H at *
                go_wp2_with fail
                refine hT.mono ?_
                rintro r w5 ⟨v', K', rfl, o5, a', n', cap', rfl⟩
                clear hT c0 c1 c2 c3 c4 c5 c6 c7
                go_wp2_with fail
                refine (down_any w5 o5.ow.dk).mono ?_
                rw [hao]
                rintro r w6 ⟨rfl, rfl⟩
                go_wp2
                exact ⟨⟨i + 1, _, _, _, _, _, rfl, hlt, rfl, rfl, o5⟩, by simp only [intOf]; omega⟩
      by_cases e2 : s.do_ = 2
      · as_aux_lemma =>
          have hop := done_o s hokI _ oA.ow.dk
          have HX : Hid (∀ w' es', Step (wr.alloc (.cells (stpC s) 29)) w' p mb es es' (tick c) → effE s es c es' → Goes s c → Calls Try.prog 11 #[.slice la K.length lc, .agg (stpC s)] w' (fun r w'' => ∃ v' K', r = .returned (.tuple #[v', .bool true]) ∧ SI w w'' p mb es' (tick c) v' K' false dn ∧ ∃ a n cap, v' = .slice a n cap)) := fun w' es' st hef hg => oA.told s (by omega) (by omega) st hef hg
          have HB : Hid (∀ w' es' c', Step (wr.alloc (.cells (stpC s) 29)) w' p mb es es' c' → w'.heap[wr.heap.size]? = some (.cells (stpC s) 29 (0, 0))) := fun w' es' c' st => (st.stay.block _ hhs hnf).trans hbx
          have HO := Hid.mk oA
          have hdk := oA.ow.dk
          unfold stpC at hop HX HB HO hdk
          rw [e2] at d0 hop
          simp only [e2] at HX HB HO hdk
          clear oA hbx hok HCU hgH
          have hAr := ho.fl
          clear ho
          go_wp2_with fail
          refine (down_any _ hdk).mono ?_
          rintro r w3 ⟨rfl, rfl⟩
          go_wp2_with fail
          refine hop.mono ?_
          clear hop
          rintro r w4 (⟨E, rfl, hE, h45, st⟩ | ⟨es', rfl, hoff, hef, st⟩)
          · have o4 := HO.out.no st
            clear HX HO st hdk hnf hhs d0 d1 d2 d3 d4 d5 d6 d7 HB
            generalize wr.heap.size = H at *
            cases hco : c.off
            · have hx : E ≠ 45 := fun e => by rw [hco] at h45; exact Bool.noConfusion (h45.1 e)
              have g1 : (E == 0) = false := by simpa using hE
              have g2 : (E != 0) = true := by simpa using hE
              have g3 : (E == 45) = false := by simpa using hx
              have g4 : (E != 45) = true := by simpa using hx
              have hao := hco
              clear hE hx h45 hAr
              cases ar
              · go_wp2_with fail
                refine (down_any w4 o4.ow.dk).mono ?_
                rw [hao]
                rintro r w5 ⟨rfl, rfl⟩
                go_wp2_with fail
                refine holds_any _ o4.ow.dk hao o4.kl o4.pm _ (fun wz bz => ?_)
                have oz := o4.more bz
                clear HR
                go_wp2
                exact ⟨⟨i + 1, _, _, _, _, _, rfl, hlt, rfl, rfl, oz⟩, by simp only [intOf]; omega⟩
              · go_wp2_with fail
                refine (down_any w4 o4.ow.dk).mono ?_
                rw [hao]
                rintro r w5 ⟨rfl, rfl⟩
                go_wp2_with fail
                refine holds_any _ o4.ow.dk hao o4.kl o4.pm _ (fun wz bz => ?_)
                have oz := o4.more bz
                clear HR
                go_wp2
                exact ⟨⟨i + 1, _, _, _, _, _, rfl, hlt, rfl, rfl, oz⟩, by simp only [intOf]; omega⟩
            · have hx : E = 45 := h45.2 hco
              subst hx
              have hao := hco
              cases ar
              · clear hE h45 hAr
                go_wp2_with fail
                refine (down_any w4 o4.ow.dk).mono ?_
                rw [hao]
                rintro r w5 ⟨rfl, rfl⟩
                go_wp2
                exact ⟨⟨i + 1, _, _, _, _, _, rfl, hlt, rfl, rfl, o4⟩, by simp only [intOf]; omega⟩
              · exact absurd ((hAr.1 rfl).2.1) (by rw [hco]; simp)
          · have hb4 := HB.out w4 _ _ st
            have c0 : w4.cell? ⟨wr.heap.size, 0, none⟩ = some (.int .i64 2) := by simp [World.cell?, hb4]
            have c1 : w4.cell? ⟨wr.heap.size, 1, none⟩ = some (.string s.nm) := by simp [World.cell?, hb4]
            have c2 : w4.cell? ⟨wr.heap.size, 2, none⟩ = some (.string s.to) := by simp [World.cell?, hb4]
            have c3 : w4.cell? ⟨wr.heap.size, 3, none⟩ = some (.string s.da) := by simp [World.cell?, hb4]
            have c4 : w4.cell? ⟨wr.heap.size, 4, none⟩ = some (.int .i64 s.at_) := by simp [World.cell?, hb4]
            have c5 : w4.cell? ⟨wr.heap.size, 5, none⟩ = some (.int .i64 s.n) := by simp [World.cell?, hb4]
            have c6 : w4.cell? ⟨wr.heap.size, 6, none⟩ = some (.bool s.dn) := by simp [World.cell?, hb4]
            have c7 : w4.cell? ⟨wr.heap.size, 7, none⟩ = some (.slice s.ca s.cs.length s.cc) := by simp [World.cell?, hb4]
            skip
            cases ar
            · have hl : c.left = 0 := hAr.2 rfl
              have hk0 : okE c = 0 := by unfold okE; rw [hl]; rfl
              have hao : (tick c).off = false := by show (c.left == 1) = false; rw [hl]; rfl
              have hg : Goes s c := .inl (by omega)
              rw [hk0, hoff]
              clear hk0 hl
              have hT := HX.out w4 es' st hef hg
              clear HX HO HB hb4 st hdk hnf hhs hef hg hAr d0 d1 d2 d3 d4 d5 d6 d7
              generalize wr.heap.size = H at *
              go_wp2_with fail
              refine hT.mono ?_
              rintro r w5 ⟨v', K', rfl, o5, a', n', cap', rfl⟩
              clear hT c0 c1 c2 c3 c4 c5 c6 c7
              go_wp2_with fail
              refine (down_any w5 o5.ow.dk).mono ?_
              rw [hao]
              rintro r w6 ⟨rfl, rfl⟩
              go_wp2_with fail
              refine holds_any _ o5.ow.dk hao o5.kl o5.pm _ (fun wz bz => ?_)
              have oz := o5.more bz
              clear HR
              go_wp2
              exact ⟨⟨i + 1, _, _, _, _, _, rfl, hlt, rfl, rfl, oz⟩, by simp only [intOf]; omega⟩
            · obtain ⟨hl, -, hdn⟩ := hAr.1 rfl
              have hk0 : okE c = 45 := by unfold okE; rw [if_pos hl]
              have hao : (tick c).off = true := by show (c.left == 1) = true; rw [hl]; rfl
              rw [hk0, hoff]
              clear hk0
              have hg : Goes s c := .inr (.inl e2)
              clear hl hdn
              have hT := HX.out w4 es' st hef hg
              clear HX HO HB hb4 st hdk hnf hhs hef hg hAr d0 d1 d2 d3 d4 d5 d6 d7
              generalize wr.heap.size = H at *
              go_wp2_with fail
              refine hT.mono ?_
              rintro r w5 ⟨v', K', rfl, o5, a', n', cap', rfl⟩
              clear hT c0 c1 c2 c3 c4 c5 c6 c7
              go_wp2_with fail
              refine (down_any w5 o5.ow.dk).mono ?_
              rw [hao]
              rintro r w6 ⟨rfl, rfl⟩
              go_wp2
              exact ⟨⟨i + 1, _, _, _, _, _, rfl, hlt, rfl, rfl, o5⟩, by simp only [intOf]; omega⟩
      by_cases e3 : s.do_ = 3
      · as_aux_lemma =>
          have hop := done_o s hokI _ oA.ow.dk
          have HX : Hid (∀ w' es', Step (wr.alloc (.cells (stpC s) 29)) w' p mb es es' (tick c) → effE s es c es' → Goes s c → Calls Try.prog 11 #[.slice la K.length lc, .agg (stpC s)] w' (fun r w'' => ∃ v' K', r = .returned (.tuple #[v', .bool true]) ∧ SI w w'' p mb es' (tick c) v' K' false dn ∧ ∃ a n cap, v' = .slice a n cap)) := fun w' es' st hef hg => oA.told s (by omega) (by omega) st hef hg
          have HB : Hid (∀ w' es' c', Step (wr.alloc (.cells (stpC s) 29)) w' p mb es es' c' → w'.heap[wr.heap.size]? = some (.cells (stpC s) 29 (0, 0))) := fun w' es' c' st => (st.stay.block _ hhs hnf).trans hbx
          have HO := Hid.mk oA
          have hdk := oA.ow.dk
          unfold stpC at hop HX HB HO hdk
          rw [e3] at d0 hop
          simp only [e3] at HX HB HO hdk
          clear oA hbx hok HCU hgH
          have hAr := ho.fl
          clear ho
          go_wp2_with fail
          refine (down_any _ hdk).mono ?_
          rintro r w3 ⟨rfl, rfl⟩
          go_wp2_with fail
          refine hop.mono ?_
          clear hop
          rintro r w4 (⟨E, rfl, hE, h45, st⟩ | ⟨es', rfl, hoff, hef, st⟩)
          · have o4 := HO.out.no st
            clear HX HO st hdk hnf hhs d0 d1 d2 d3 d4 d5 d6 d7 HB
            generalize wr.heap.size = H at *
            cases hco : c.off
            · have hx : E ≠ 45 := fun e => by rw [hco] at h45; exact Bool.noConfusion (h45.1 e)
              have g1 : (E == 0) = false := by simpa using hE
              have g2 : (E != 0) = true := by simpa using hE
              have g3 : (E == 45) = false := by simpa using hx
              have g4 : (E != 45) = true := by simpa using hx
              have hao := hco
              clear hE hx h45 hAr
              cases ar
              · go_wp2_with fail
                refine (down_any w4 o4.ow.dk).mono ?_
                rw [hao]
                rintro r w5 ⟨rfl, rfl⟩
                go_wp2_with fail
                refine holds_any _ o4.ow.dk hao o4.kl o4.pm _ (fun wz bz => ?_)
                have oz := o4.more bz
                clear HR
                go_wp2
                exact ⟨⟨i + 1, _, _, _, _, _, rfl, hlt, rfl, rfl, oz⟩, by simp only [intOf]; omega⟩
              · go_wp2_with fail
                refine (down_any w4 o4.ow.dk).mono ?_
                rw [hao]
                rintro r w5 ⟨rfl, rfl⟩
                go_wp2_with fail
                refine holds_any _ o4.ow.dk hao o4.kl o4.pm _ (fun wz bz => ?_)
                have oz := o4.more bz
                clear HR
                go_wp2
                exact ⟨⟨i + 1, _, _, _, _, _, rfl, hlt, rfl, rfl, oz⟩, by simp only [intOf]; omega⟩
            · have hx : E = 45 := h45.2 hco
              subst hx
              have hao := hco
              cases ar
              · clear hE h45 hAr
                go_wp2_with fail
                refine (down_any w4 o4.ow.dk).mono ?_
                rw [hao]
                rintro r w5 ⟨rfl, rfl⟩
                go_wp2
                exact ⟨⟨i + 1, _, _, _, _, _, rfl, hlt, rfl, rfl, o4⟩, by simp only [intOf]; omega⟩
              · exact absurd ((hAr.1 rfl).2.1) (by rw [hco]; simp)
          · have hb4 := HB.out w4 _ _ st
            have c0 : w4.cell? ⟨wr.heap.size, 0, none⟩ = some (.int .i64 3) := by simp [World.cell?, hb4]
            have c1 : w4.cell? ⟨wr.heap.size, 1, none⟩ = some (.string s.nm) := by simp [World.cell?, hb4]
            have c2 : w4.cell? ⟨wr.heap.size, 2, none⟩ = some (.string s.to) := by simp [World.cell?, hb4]
            have c3 : w4.cell? ⟨wr.heap.size, 3, none⟩ = some (.string s.da) := by simp [World.cell?, hb4]
            have c4 : w4.cell? ⟨wr.heap.size, 4, none⟩ = some (.int .i64 s.at_) := by simp [World.cell?, hb4]
            have c5 : w4.cell? ⟨wr.heap.size, 5, none⟩ = some (.int .i64 s.n) := by simp [World.cell?, hb4]
            have c6 : w4.cell? ⟨wr.heap.size, 6, none⟩ = some (.bool s.dn) := by simp [World.cell?, hb4]
            have c7 : w4.cell? ⟨wr.heap.size, 7, none⟩ = some (.slice s.ca s.cs.length s.cc) := by simp [World.cell?, hb4]
            skip
            cases ar
            · have hl : c.left = 0 := hAr.2 rfl
              have hk0 : okE c = 0 := by unfold okE; rw [hl]; rfl
              have hao : (tick c).off = false := by show (c.left == 1) = false; rw [hl]; rfl
              have hg : Goes s c := .inl (by omega)
              rw [hk0, hoff]
              clear hk0 hl
              have hT := HX.out w4 es' st hef hg
              clear HX HO HB hb4 st hdk hnf hhs hef hg hAr d0 d1 d2 d3 d4 d5 d6 d7
              generalize wr.heap.size = H at *
              go_wp2_with fail
              refine hT.mono ?_
              rintro r w5 ⟨v', K', rfl, o5, a', n', cap', rfl⟩
              clear hT c0 c1 c2 c3 c4 c5 c6 c7
              go_wp2_with fail
              refine (down_any w5 o5.ow.dk).mono ?_
              rw [hao]
              rintro r w6 ⟨rfl, rfl⟩
              go_wp2_with fail
              refine holds_any _ o5.ow.dk hao o5.kl o5.pm _ (fun wz bz => ?_)
              have oz := o5.more bz
              clear HR
              go_wp2
              exact ⟨⟨i + 1, _, _, _, _, _, rfl, hlt, rfl, rfl, oz⟩, by simp only [intOf]; omega⟩
            · obtain ⟨hl, -, hdn⟩ := hAr.1 rfl
              have hk0 : okE c = 45 := by unfold okE; rw [if_pos hl]
              have hao : (tick c).off = true := by show (c.left == 1) = true; rw [hl]; rfl
              rw [hk0, hoff]
              clear hk0
              have HDN : s.do_ = 3 ∨ c.dn = false := .inl e3
              have hes := eff_not hef (by omega) hl (HDN)
              subst hes
              have o4 := HO.out.lost st
              clear HX HO HB hb4 st hdk hnf hhs hef hAr d0 d1 d2 d3 d4 d5 d6 d7 HDN hl hdn
              generalize wr.heap.size = H at *
              go_wp2_with fail
              refine (down_any w4 o4.ow.dk).mono ?_
              rw [hao]
              rintro r w5 ⟨rfl, rfl⟩
              go_wp2
              exact ⟨⟨i + 1, _, _, _, _, _, rfl, hlt, rfl, rfl, o4⟩, by simp only [intOf]; omega⟩
      by_cases e4 : s.do_ = 4
      · as_aux_lemma =>
          have hop := done_o s hokI _ oA.ow.dk
          have HX : Hid (∀ w' es', Step (wr.alloc (.cells (stpC s) 29)) w' p mb es es' (tick c) → effE s es c es' → Goes s c → Calls Try.prog 11 #[.slice la K.length lc, .agg (stpC s)] w' (fun r w'' => ∃ v' K', r = .returned (.tuple #[v', .bool true]) ∧ SI w w'' p mb es' (tick c) v' K' false dn ∧ ∃ a n cap, v' = .slice a n cap)) := fun w' es' st hef hg => oA.told s (by omega) (by omega) st hef hg
          have HB : Hid (∀ w' es' c', Step (wr.alloc (.cells (stpC s) 29)) w' p mb es es' c' → w'.heap[wr.heap.size]? = some (.cells (stpC s) 29 (0, 0))) := fun w' es' c' st => (st.stay.block _ hhs hnf).trans hbx
          have HO := Hid.mk oA
          have hdk := oA.ow.dk
          unfold stpC at hop HX HB HO hdk
          rw [e4] at d0 hop
          simp only [e4] at HX HB HO hdk
          clear oA hbx hok HCU hgH
          have hAr := ho.fl
          clear ho
          go_wp2_with fail
          refine (down_any _ hdk).mono ?_
          rintro r w3 ⟨rfl, rfl⟩
          go_wp2_with fail
          refine hop.mono ?_
          clear hop
          rintro r w4 (⟨E, rfl, hE, h45, st⟩ | ⟨es', rfl, hoff, hef, st⟩)
          · have o4 := HO.out.no st
            clear HX HO st hdk hnf hhs d0 d1 d2 d3 d4 d5 d6 d7 HB
            generalize wr.heap.size = H at *
            cases hco : c.off
            · have hx : E ≠ 45 := fun e => by rw [hco] at h45; exact Bool.noConfusion (h45.1 e)
              have g1 : (E == 0) = false := by simpa using hE
              have g2 : (E != 0) = true := by simpa using hE
              have g3 : (E == 45) = false := by simpa using hx
              have g4 : (E != 45) = true := by simpa using hx
              have hao := hco
              clear hE hx h45 hAr
              cases ar
              · go_wp2_with fail
                refine (down_any w4 o4.ow.dk).mono ?_
                rw [hao]
                rintro r w5 ⟨rfl, rfl⟩
                go_wp2_with fail
                refine holds_any _ o4.ow.dk hao o4.kl o4.pm _ (fun wz bz => ?_)
                have oz := o4.more bz
                clear HR
                go_wp2
                exact ⟨⟨i + 1, _, _, _, _, _, rfl, hlt, rfl, rfl, oz⟩, by simp only [intOf]; omega⟩
              · go_wp2_with fail
                refine (down_any w4 o4.ow.dk).mono ?_
                rw [hao]
                rintro r w5 ⟨rfl, rfl⟩
                go_wp2_with fail
                refine holds_any _ o4.ow.dk hao o4.kl o4.pm _ (fun wz bz => ?_)
                have oz := o4.more bz
                clear HR
                go_wp2
                exact ⟨⟨i + 1, _, _, _, _, _, rfl, hlt, rfl, rfl, oz⟩, by simp only [intOf]; omega⟩
            · have hx : E = 45 := h45.2 hco
              subst hx
              have hao := hco
              cases ar
              · clear hE h45 hAr
                go_wp2_with fail
                refine (down_any w4 o4.ow.dk).mono ?_
                rw [hao]
                rintro r w5 ⟨rfl, rfl⟩
                go_wp2
                exact ⟨⟨i + 1, _, _, _, _, _, rfl, hlt, rfl, rfl, o4⟩, by simp only [intOf]; omega⟩
              · exact absurd ((hAr.1 rfl).2.1) (by rw [hco]; simp)
          · have hb4 := HB.out w4 _ _ st
            have c0 : w4.cell? ⟨wr.heap.size, 0, none⟩ = some (.int .i64 4) := by simp [World.cell?, hb4]
            have c1 : w4.cell? ⟨wr.heap.size, 1, none⟩ = some (.string s.nm) := by simp [World.cell?, hb4]
            have c2 : w4.cell? ⟨wr.heap.size, 2, none⟩ = some (.string s.to) := by simp [World.cell?, hb4]
            have c3 : w4.cell? ⟨wr.heap.size, 3, none⟩ = some (.string s.da) := by simp [World.cell?, hb4]
            have c4 : w4.cell? ⟨wr.heap.size, 4, none⟩ = some (.int .i64 s.at_) := by simp [World.cell?, hb4]
            have c5 : w4.cell? ⟨wr.heap.size, 5, none⟩ = some (.int .i64 s.n) := by simp [World.cell?, hb4]
            have c6 : w4.cell? ⟨wr.heap.size, 6, none⟩ = some (.bool s.dn) := by simp [World.cell?, hb4]
            have c7 : w4.cell? ⟨wr.heap.size, 7, none⟩ = some (.slice s.ca s.cs.length s.cc) := by simp [World.cell?, hb4]
            skip
            cases ar
            · have hl : c.left = 0 := hAr.2 rfl
              have hk0 : okE c = 0 := by unfold okE; rw [hl]; rfl
              have hao : (tick c).off = false := by show (c.left == 1) = false; rw [hl]; rfl
              have hg : Goes s c := .inl (by omega)
              rw [hk0, hoff]
              clear hk0 hl
              have hT := HX.out w4 es' st hef hg
              clear HX HO HB hb4 st hdk hnf hhs hef hg hAr d0 d1 d2 d3 d4 d5 d6 d7
              generalize wr.heap.size = H at *
              go_wp2_with fail
              refine hT.mono ?_
              rintro r w5 ⟨v', K', rfl, o5, a', n', cap', rfl⟩
              clear hT c0 c1 c2 c3 c4 c5 c6 c7
              go_wp2_with fail
              refine (down_any w5 o5.ow.dk).mono ?_
              rw [hao]
              rintro r w6 ⟨rfl, rfl⟩
              go_wp2_with fail
              refine holds_any _ o5.ow.dk hao o5.kl o5.pm _ (fun wz bz => ?_)
              have oz := o5.more bz
              clear HR
              go_wp2
              exact ⟨⟨i + 1, _, _, _, _, _, rfl, hlt, rfl, rfl, oz⟩, by simp only [intOf]; omega⟩
            · obtain ⟨hl, -, hdn⟩ := hAr.1 rfl
              have hk0 : okE c = 45 := by unfold okE; rw [if_pos hl]
              have hao : (tick c).off = true := by show (c.left == 1) = true; rw [hl]; rfl
              rw [hk0, hoff]
              clear hk0
              cases dn
              · have HDN : s.do_ = 3 ∨ c.dn = false := .inr hdn.symm
                have hes := eff_not hef (by omega) hl (HDN)
                subst hes
                have o4 := HO.out.lost st
                clear HX HO HB hb4 st hdk hnf hhs hef hAr d0 d1 d2 d3 d4 d5 d6 d7 HDN hl hdn
                generalize wr.heap.size = H at *
                go_wp2_with fail
                refine (down_any w4 o4.ow.dk).mono ?_
                rw [hao]
                rintro r w5 ⟨rfl, rfl⟩
                go_wp2
                exact ⟨⟨i + 1, _, _, _, _, _, rfl, hlt, rfl, rfl, o4⟩, by simp only [intOf]; omega⟩
              · have hg : Goes s c := .inr (.inr ⟨by omega, hdn.symm⟩)
                clear hl hdn
                have hT := HX.out w4 es' st hef hg
                clear HX HO HB hb4 st hdk hnf hhs hef hg hAr d0 d1 d2 d3 d4 d5 d6 d7
                generalize wr.heap.size = H at *
                go_wp2_with fail
                refine hT.mono ?_
                rintro r w5 ⟨v', K', rfl, o5, a', n', cap', rfl⟩
                clear hT c0 c1 c2 c3 c4 c5 c6 c7
                go_wp2_with fail
                refine (down_any w5 o5.ow.dk).mono ?_
                rw [hao]
                rintro r w6 ⟨rfl, rfl⟩
                go_wp2
                exact ⟨⟨i + 1, _, _, _, _, _, rfl, hlt, rfl, rfl, o5⟩, by simp only [intOf]; omega⟩
      by_cases e5 : s.do_ = 5
      · as_aux_lemma =>
          have hop := done_o s hokI _ oA.ow.dk
          have HX : Hid (∀ w' es', Step (wr.alloc (.cells (stpC s) 29)) w' p mb es es' (tick c) → effE s es c es' → Goes s c → Calls Try.prog 11 #[.slice la K.length lc, .agg (stpC s)] w' (fun r w'' => ∃ v' K', r = .returned (.tuple #[v', .bool true]) ∧ SI w w'' p mb es' (tick c) v' K' false dn ∧ ∃ a n cap, v' = .slice a n cap)) := fun w' es' st hef hg => oA.told s (by omega) (by omega) st hef hg
          have HB : Hid (∀ w' es' c', Step (wr.alloc (.cells (stpC s) 29)) w' p mb es es' c' → w'.heap[wr.heap.size]? = some (.cells (stpC s) 29 (0, 0))) := fun w' es' c' st => (st.stay.block _ hhs hnf).trans hbx
          have HO := Hid.mk oA
          have hdk := oA.ow.dk
          unfold stpC at hop HX HB HO hdk
          rw [e5] at d0 hop
          simp only [e5] at HX HB HO hdk
          clear oA hbx hok HCU hgH
          have hAr := ho.fl
          clear ho
          go_wp2_with fail
          refine (down_any _ hdk).mono ?_
          rintro r w3 ⟨rfl, rfl⟩
          go_wp2_with fail
          refine hop.mono ?_
          clear hop
          rintro r w4 (⟨E, rfl, hE, h45, st⟩ | ⟨es', rfl, hoff, hef, st⟩)
          · have o4 := HO.out.no st
            clear HX HO st hdk hnf hhs d0 d1 d2 d3 d4 d5 d6 d7 HB
            generalize wr.heap.size = H at *
            cases hco : c.off
            · have hx : E ≠ 45 := fun e => by rw [hco] at h45; exact Bool.noConfusion (h45.1 e)
              have g1 : (E == 0) = false := by simpa using hE
              have g2 : (E != 0) = true := by simpa using hE
              have g3 : (E == 45) = false := by simpa using hx
              have g4 : (E != 45) = true := by simpa using hx
              have hao := hco
              clear hE hx h45 hAr
              cases ar
              · go_wp2_with fail
                refine (down_any w4 o4.ow.dk).mono ?_
                rw [hao]
                rintro r w5 ⟨rfl, rfl⟩
                go_wp2_with fail
                refine holds_any _ o4.ow.dk hao o4.kl o4.pm _ (fun wz bz => ?_)
                have oz := o4.more bz
                clear HR
                go_wp2
                exact ⟨⟨i + 1, _, _, _, _, _, rfl, hlt, rfl, rfl, oz⟩, by simp only [intOf]; omega⟩
              · go_wp2_with fail
                refine (down_any w4 o4.ow.dk).mono ?_
                rw [hao]
                rintro r w5 ⟨rfl, rfl⟩
                go_wp2_with fail
                refine holds_any _ o4.ow.dk hao o4.kl o4.pm _ (fun wz bz => ?_)
                have oz := o4.more bz
                clear HR
                go_wp2
                exact ⟨⟨i + 1, _, _, _, _, _, rfl, hlt, rfl, rfl, oz⟩, by simp only [intOf]; omega⟩
            · have hx : E = 45 := h45.2 hco
              subst hx
              have hao := hco
              cases ar
              · clear hE h45 hAr
                go_wp2_with fail
                refine (down_any w4 o4.ow.dk).mono ?_
                rw [hao]
                rintro r w5 ⟨rfl, rfl⟩
                go_wp2
                exact ⟨⟨i + 1, _, _, _, _, _, rfl, hlt, rfl, rfl, o4⟩, by simp only [intOf]; omega⟩
              · exact absurd ((hAr.1 rfl).2.1) (by rw [hco]; simp)
          · have hb4 := HB.out w4 _ _ st
            have c0 : w4.cell? ⟨wr.heap.size, 0, none⟩ = some (.int .i64 5) := by simp [World.cell?, hb4]
            have c1 : w4.cell? ⟨wr.heap.size, 1, none⟩ = some (.string s.nm) := by simp [World.cell?, hb4]
            have c2 : w4.cell? ⟨wr.heap.size, 2, none⟩ = some (.string s.to) := by simp [World.cell?, hb4]
            have c3 : w4.cell? ⟨wr.heap.size, 3, none⟩ = some (.string s.da) := by simp [World.cell?, hb4]
            have c4 : w4.cell? ⟨wr.heap.size, 4, none⟩ = some (.int .i64 s.at_) := by simp [World.cell?, hb4]
            have c5 : w4.cell? ⟨wr.heap.size, 5, none⟩ = some (.int .i64 s.n) := by simp [World.cell?, hb4]
            have c6 : w4.cell? ⟨wr.heap.size, 6, none⟩ = some (.bool s.dn) := by simp [World.cell?, hb4]
            have c7 : w4.cell? ⟨wr.heap.size, 7, none⟩ = some (.slice s.ca s.cs.length s.cc) := by simp [World.cell?, hb4]
            skip
            cases ar
            · have hl : c.left = 0 := hAr.2 rfl
              have hk0 : okE c = 0 := by unfold okE; rw [hl]; rfl
              have hao : (tick c).off = false := by show (c.left == 1) = false; rw [hl]; rfl
              have hg : Goes s c := .inl (by omega)
              rw [hk0, hoff]
              clear hk0 hl
              have hT := HX.out w4 es' st hef hg
              clear HX HO HB hb4 st hdk hnf hhs hef hg hAr d0 d1 d2 d3 d4 d5 d6 d7
              generalize wr.heap.size = H at *
              go_wp2_with fail
              refine hT.mono ?_
              rintro r w5 ⟨v', K', rfl, o5, a', n', cap', rfl⟩
              clear hT c0 c1 c2 c3 c4 c5 c6 c7
              go_wp2_with fail
              refine (down_any w5 o5.ow.dk).mono ?_
              rw [hao]
              rintro r w6 ⟨rfl, rfl⟩
              go_wp2_with fail
              refine holds_any _ o5.ow.dk hao o5.kl o5.pm _ (fun wz bz => ?_)
              have oz := o5.more bz
              clear HR
              go_wp2
              exact ⟨⟨i + 1, _, _, _, _, _, rfl, hlt, rfl, rfl, oz⟩, by simp only [intOf]; omega⟩
            · obtain ⟨hl, -, hdn⟩ := hAr.1 rfl
              have hk0 : okE c = 45 := by unfold okE; rw [if_pos hl]
              have hao : (tick c).off = true := by show (c.left == 1) = true; rw [hl]; rfl
              rw [hk0, hoff]
              clear hk0
              cases dn
              · have HDN : s.do_ = 3 ∨ c.dn = false := .inr hdn.symm
                have hes := eff_not hef (by omega) hl (HDN)
                subst hes
                have o4 := HO.out.lost st
                clear HX HO HB hb4 st hdk hnf hhs hef hAr d0 d1 d2 d3 d4 d5 d6 d7 HDN hl hdn
                generalize wr.heap.size = H at *
                go_wp2_with fail
                refine (down_any w4 o4.ow.dk).mono ?_
                rw [hao]
                rintro r w5 ⟨rfl, rfl⟩
                go_wp2
                exact ⟨⟨i + 1, _, _, _, _, _, rfl, hlt, rfl, rfl, o4⟩, by simp only [intOf]; omega⟩
              · have hg : Goes s c := .inr (.inr ⟨by omega, hdn.symm⟩)
                clear hl hdn
                have hT := HX.out w4 es' st hef hg
                clear HX HO HB hb4 st hdk hnf hhs hef hg hAr d0 d1 d2 d3 d4 d5 d6 d7
                generalize wr.heap.size = H at *
                go_wp2_with fail
                refine hT.mono ?_
                rintro r w5 ⟨v', K', rfl, o5, a', n', cap', rfl⟩
                clear hT c0 c1 c2 c3 c4 c5 c6 c7
                go_wp2_with fail
                refine (down_any w5 o5.ow.dk).mono ?_
                rw [hao]
                rintro r w6 ⟨rfl, rfl⟩
                go_wp2
                exact ⟨⟨i + 1, _, _, _, _, _, rfl, hlt, rfl, rfl, o5⟩, by simp only [intOf]; omega⟩
      by_cases e6 : s.do_ = 6
      · as_aux_lemma =>
          have hop := done_o s hokI _ oA.ow.dk
          have HX : Hid (∀ w' es', Step (wr.alloc (.cells (stpC s) 29)) w' p mb es es' (tick c) → effE s es c es' → Goes s c → Calls Try.prog 11 #[.slice la K.length lc, .agg (stpC s)] w' (fun r w'' => ∃ v' K', r = .returned (.tuple #[v', .bool true]) ∧ SI w w'' p mb es' (tick c) v' K' false dn ∧ ∃ a n cap, v' = .slice a n cap)) := fun w' es' st hef hg => oA.told s (by omega) (by omega) st hef hg
          have HB : Hid (∀ w' es' c', Step (wr.alloc (.cells (stpC s) 29)) w' p mb es es' c' → w'.heap[wr.heap.size]? = some (.cells (stpC s) 29 (0, 0))) := fun w' es' c' st => (st.stay.block _ hhs hnf).trans hbx
          have HO := Hid.mk oA
          have hdk := oA.ow.dk
          unfold stpC at hop HX HB HO hdk
          rw [e6] at d0 hop
          simp only [e6] at HX HB HO hdk
          clear oA hbx hok HCU hgH
          have hAr := ho.fl
          clear ho
          go_wp2_with fail
          refine (down_any _ hdk).mono ?_
          rintro r w3 ⟨rfl, rfl⟩
          go_wp2_with fail
          refine hop.mono ?_
          clear hop
          rintro r w4 (⟨E, rfl, hE, h45, st⟩ | ⟨es', rfl, hoff, hef, st⟩)
          · have o4 := HO.out.no st
            clear HX HO st hdk hnf hhs d0 d1 d2 d3 d4 d5 d6 d7 HB
            generalize wr.heap.size = H at *
            cases hco : c.off
            · have hx : E ≠ 45 := fun e => by rw [hco] at h45; exact Bool.noConfusion (h45.1 e)
              have g1 : (E == 0) = false := by simpa using hE
              have g2 : (E != 0) = true := by simpa using hE
              have g3 : (E == 45) = false := by simpa using hx
              have g4 : (E != 45) = true := by simpa using hx
              have hao := hco
              clear hE hx h45 hAr
              cases ar
              · go_wp2_with fail
                refine (down_any w4 o4.ow.dk).mono ?_
                rw [hao]
                rintro r w5 ⟨rfl, rfl⟩
                go_wp2_with fail
                refine holds_any _ o4.ow.dk hao o4.kl o4.pm _ (fun wz bz => ?_)
                have oz := o4.more bz
                clear HR
                go_wp2
                exact ⟨⟨i + 1, _, _, _, _, _, rfl, hlt, rfl, rfl, oz⟩, by simp only [intOf]; omega⟩
              · go_wp2_with fail
                refine (down_any w4 o4.ow.dk).mono ?_
                rw [hao]
                rintro r w5 ⟨rfl, rfl⟩
                go_wp2_with fail
                refine holds_any _ o4.ow.dk hao o4.kl o4.pm _ (fun wz bz => ?_)
                have oz := o4.more bz
                clear HR
                go_wp2
                exact ⟨⟨i + 1, _, _, _, _, _, rfl, hlt, rfl, rfl, oz⟩, by simp only [intOf]; omega⟩
            · have hx : E = 45 := h45.2 hco
              subst hx
              have hao := hco
              cases ar
              · clear hE h45 hAr
                go_wp2_with fail
                refine (down_any w4 o4.ow.dk).mono ?_
                rw [hao]
                rintro r w5 ⟨rfl, rfl⟩
                go_wp2
                exact ⟨⟨i + 1, _, _, _, _, _, rfl, hlt, rfl, rfl, o4⟩, by simp only [intOf]; omega⟩
              · exact absurd ((hAr.1 rfl).2.1) (by rw [hco]; simp)
          · have hb4 := HB.out w4 _ _ st
            have c0 : w4.cell? ⟨wr.heap.size, 0, none⟩ = some (.int .i64 6) := by simp [World.cell?, hb4]
            have c1 : w4.cell? ⟨wr.heap.size, 1, none⟩ = some (.string s.nm) := by simp [World.cell?, hb4]
            have c2 : w4.cell? ⟨wr.heap.size, 2, none⟩ = some (.string s.to) := by simp [World.cell?, hb4]
            have c3 : w4.cell? ⟨wr.heap.size, 3, none⟩ = some (.string s.da) := by simp [World.cell?, hb4]
            have c4 : w4.cell? ⟨wr.heap.size, 4, none⟩ = some (.int .i64 s.at_) := by simp [World.cell?, hb4]
            have c5 : w4.cell? ⟨wr.heap.size, 5, none⟩ = some (.int .i64 s.n) := by simp [World.cell?, hb4]
            have c6 : w4.cell? ⟨wr.heap.size, 6, none⟩ = some (.bool s.dn) := by simp [World.cell?, hb4]
            have c7 : w4.cell? ⟨wr.heap.size, 7, none⟩ = some (.slice s.ca s.cs.length s.cc) := by simp [World.cell?, hb4]
            skip
            cases ar
            · have hl : c.left = 0 := hAr.2 rfl
              have hk0 : okE c = 0 := by unfold okE; rw [hl]; rfl
              have hao : (tick c).off = false := by show (c.left == 1) = false; rw [hl]; rfl
              have hg : Goes s c := .inl (by omega)
              rw [hk0, hoff]
              clear hk0 hl
              have hT := HX.out w4 es' st hef hg
              clear HX HO HB hb4 st hdk hnf hhs hef hg hAr d0 d1 d2 d3 d4 d5 d6 d7
              generalize wr.heap.size = H at *
              go_wp2_with fail
              refine hT.mono ?_
              rintro r w5 ⟨v', K', rfl, o5, a', n', cap', rfl⟩
              clear hT c0 c1 c2 c3 c4 c5 c6 c7
              go_wp2_with fail
              refine (down_any w5 o5.ow.dk).mono ?_
              rw [hao]
              rintro r w6 ⟨rfl, rfl⟩
              go_wp2_with fail
              refine holds_any _ o5.ow.dk hao o5.kl o5.pm _ (fun wz bz => ?_)
              have oz := o5.more bz
              clear HR
              go_wp2
              exact ⟨⟨i + 1, _, _, _, _, _, rfl, hlt, rfl, rfl, oz⟩, by simp only [intOf]; omega⟩
            · obtain ⟨hl, -, hdn⟩ := hAr.1 rfl
              have hk0 : okE c = 45 := by unfold okE; rw [if_pos hl]
              have hao : (tick c).off = true := by show (c.left == 1) = true; rw [hl]; rfl
              rw [hk0, hoff]
              clear hk0
              cases dn
              · have HDN : s.do_ = 3 ∨ c.dn = false := .inr hdn.symm
                have hes := eff_not hef (by omega) hl (HDN)
                subst hes
                have o4 := HO.out.lost st
                clear HX HO HB hb4 st hdk hnf hhs hef hAr d0 d1 d2 d3 d4 d5 d6 d7 HDN hl hdn
                generalize wr.heap.size = H at *
                go_wp2_with fail
                refine (down_any w4 o4.ow.dk).mono ?_
                rw [hao]
                rintro r w5 ⟨rfl, rfl⟩
                go_wp2
                exact ⟨⟨i + 1, _, _, _, _, _, rfl, hlt, rfl, rfl, o4⟩, by simp only [intOf]; omega⟩
              · have hg : Goes s c := .inr (.inr ⟨by omega, hdn.symm⟩)
                clear hl hdn
                have hT := HX.out w4 es' st hef hg
                clear HX HO HB hb4 st hdk hnf hhs hef hg hAr d0 d1 d2 d3 d4 d5 d6 d7
                generalize wr.heap.size = H at *
                go_wp2_with fail
                refine hT.mono ?_
                rintro r w5 ⟨v', K', rfl, o5, a', n', cap', rfl⟩
                clear hT c0 c1 c2 c3 c4 c5 c6 c7
                go_wp2_with fail
                refine (down_any w5 o5.ow.dk).mono ?_
                rw [hao]
                rintro r w6 ⟨rfl, rfl⟩
                go_wp2
                exact ⟨⟨i + 1, _, _, _, _, _, rfl, hlt, rfl, rfl, o5⟩, by simp only [intOf]; omega⟩
      as_aux_lemma =>
        have g1 : (s.do_ == 1) = false := by simpa using e1
        have g2 : (s.do_ == 2) = false := by simpa using e2
        have g3 : (s.do_ == 3) = false := by simpa using e3
        have g4 : (s.do_ == 4) = false := by simpa using e4
        have g5 : (s.do_ == 5) = false := by simpa using e5
        have g6 : (s.do_ == 6) = false := by simpa using e6
        have g8 : (s.do_ == 8) = false := by simpa using e8
        have g9 : (s.do_ == 9) = false := by simpa using e9
        have oX : SI w (wr.alloc (.cells (stpC s) 29)) p mb es c (.slice la K.length lc) K ar dn := oA
        unfold stpC at oX
        clear oA hbx HCU hok hnf hgH hhs ho
        cases hco : c.off
        · have hao := hco
          clear hco
          go_wp2_with fail
          refine (down_any _ oX.ow.dk).mono ?_
          rw [hao]
          rintro r w5 ⟨rfl, rfl⟩
          go_wp2_with fail
          refine holds_any _ oX.ow.dk hao oX.kl oX.pm _ (fun wz bz => ?_)
          have oz := oX.more bz
          clear HR
          go_wp2
          exact ⟨⟨i + 1, _, _, _, _, _, rfl, hlt, rfl, rfl, oz⟩, by simp only [intOf]; omega⟩
        · have hao := hco
          clear hco
          go_wp2_with fail
          refine (down_any _ oX.ow.dk).mono ?_
          rw [hao]
          rintro r w5 ⟨rfl, rfl⟩
          go_wp2
          exact ⟨⟨i + 1, _, _, _, _, _, rfl, hlt, rfl, rfl, oX⟩, by simp only [intOf]; omega⟩
    · as_aux_lemma =>
        have hl01 : c.left = 0 ∨ c.left = 1 := by
          cases ar
          · exact .inl (ho.fl.2 rfl)
          · exact .inr (ho.fl.1 rfl).1
        have oE := ho.ow
        clear ho hsc hok
        go_wp2_with fail
        refine (down_any _ oE.dk).mono ?_
        rintro r w3 ⟨rfl, rfl⟩
        cases hco : c.off
        · have hcl := create_last oE hco hl01
          unfold lastN at hcl
          go_wp2_with fail
          refine hcl.mono ?_
          rintro r w5 ⟨E, es5, c5, rfl, o5, hE⟩
          have hdl := delete_last o5 E hE
          unfold lastN at hdl
          clear hcl
          go_wp2_with fail
          refine hdl.mono ?_
          rintro r w6 ⟨F, rfl, b6, hEF⟩
          have hR := Hid.mk (HR.out _ b6)
          clear HR hdl o5 hE
          rcases hEF with rfl | rfl | rfl | ⟨rfl, rfl⟩
          all_goals
            go_wp2
            exact hR.out
        · go_wp2_with fail
          refine (crash_nil_ow oE).mono ?_
          rintro r w4 ⟨rfl, es4, o4, -, -⟩
          have hcl := create_last o4 rfl (.inl rfl)
          unfold lastN at hcl
          go_wp2_with fail
          refine hcl.mono ?_
          rintro r w5 ⟨E, es5, c5, rfl, o5, hE⟩
          have hdl := delete_last o5 E hE
          unfold lastN at hdl
          clear hcl
          go_wp2_with fail
          refine hdl.mono ?_
          rintro r w6 ⟨F, rfl, b6, hEF⟩
          have hR := Hid.mk (HR.out _ b6)
          clear HR hdl o5 hE
          rcases hEF with rfl | rfl | rfl | ⟨rfl, rfl⟩
          all_goals
            go_wp2
            exact hR.out
end Go.Proofs.Ythpppinplnkkhaa
