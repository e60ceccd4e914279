/-
  DERIVED. PlWr, as one text.
-/
import Derived.Test.YtojnlngpgbcimaaDoorTpAH
import Derived.Deep.RegionHeld
set_option linter.unusedVariables false
set_option linter.unusedSimpArgs false
namespace Go.Proofs.YtojnlngpgbcimaaDoor
open Go.RowKit
theorem cell_l {w w' : World} {p : Addr} {v : Value} (hb : Below w.drew.heap.size w.drew w') (h : w.cell? p = some v) : w'.cell? p = some v := (hb.cell (World.block_lt_of_cell? w p h)).trans h
theorem below_d {w w' : World} (b : Below w.drew.heap.size w.drew w') : Below w.heap.size w w' := ⟨b.os, b.tape, b.output, b.size, b.block⟩
theorem BW.pre {W W2 W' : World} {b : Nat} {v p' v' : Value} {l : List UInt8} (h : BW W2 b v W' p' v' l) (k : Below W.heap.size W W2) : BW W b v W' p' v' l :=
  ⟨h.bd, (Stay.below k).trans h.st, fun i hi => (h.loc i hi).imp id (fun h1 => Nat.le_trans k.size h1)⟩
theorem words_at {W2 wr w5 : World} {b n t c1 c2 : Nat} {p1 v v1 : Value} {l1 : List UInt8} {ns : List Int} {ts : List ByteArray} (hB : BW W2 b v wr p1 v1 l1) (b5 : Below wr.heap.size wr w5) (r1 : EI.Row w5 (.slice (some ⟨c1, 0, none⟩) n n) ns) (hn : n = ns.length) (r2 : ES.Row w5 (.slice (some ⟨c2, 0, none⟩) t t) ts) (ht : t = ts.length) (h1 : wr.heap.size ≤ c1) (h2 : wr.heap.size ≤ c2)
    (hP : ∀ V, Stay (fun k => k = b ∨ v.ownBlock = some k) W2 V → Pow V) (hI : ∀ x ∈ ns, I64 x) (hn3 : ns.length ≤ 3) (ht1 : ts.length ≤ 1) (hb : bytesS ts ≤ 1048576) (hl : l1.length ≤ 70368744177664) :
    Calls Tryd.prog 34 #[Pt b, .slice (some ⟨c1, 0, none⟩) n n, .slice (some ⟨c2, 0, none⟩) t t] w5 fun e W' => e = .returned (.tuple #[]) ∧ ∃ p' v', BW W2 b v W' p' v' (l1 ++ (numsL ns ++ txtsL ts)) := by
  subst hn ht
  have bl : b < wr.heap.size := (Array.getElem?_eq_some_iff.1 hB.bd.cells).1
  have vl : ∀ k, v1.ownBlock = some k → k < wr.heap.size := fun k hk => row_lt hB.bd.row hk
  have hk : ∀ c, wr.heap.size ≤ c → ¬ (c = b ∨ v1.ownBlock = some c) := fun c hc hf => by
    rcases hf with h3 | h3
    · omega
    · have := vl c h3; omega
  refine (words_any (la := some ⟨c1, 0, none⟩) (lb := some ⟨c2, 0, none⟩) (ca := ns.length) (cb := ts.length) ns ts (hB.bd.below b5) (fun V st => ?_) (fun V st => ?_) (fun V st => hP V ((hB.st.trans (.below b5)).andThen st (fun i hi hf => ?_))) hI (by omega) (by omega) (by omega) hl).mono ?_
  · obtain ⟨a, c, e, h⟩ := Rw.El.Row.lat (row_kept r1 st (fun k hk2 hf => by
      have e1 : c1 = k := by simpa [Value.ownBlock] using hk2
      exact hk c1 h1 (e1 ▸ hf)))
    simp only [Value.slice.injEq] at e
    rw [← e.1] at h; exact h
  · obtain ⟨a, c, e, h⟩ := Rw.El.Row.lat (row_kept r2 st (fun k hk2 hf => by
      have e1 : c2 = k := by simpa [Value.ownBlock] using hk2
      exact hk c2 h2 (e1 ▸ hf)))
    simp only [Value.slice.injEq] at e
    rw [← e.1] at h; exact h
  · rcases hf with h3 | h3
    · exact .inl h3
    · rcases hB.loc i h3 with h4 | h4
      · exact .inr h4
      · omega
  · rintro e W' ⟨rfl, p', v', h3⟩
    exact ⟨rfl, p', v', (hB.below b5).trans h3⟩
set_option maxHeartbeats 16000000 in
set_option maxRecDepth 100000 in
theorem write_any {W : World} {b : Nat} {p v : Value} {l : List UInt8} (f : Sh) (hf : f ∈ shL) (s : St) (hs : StI s) {la lb : Option Addr} {ca cb : Nat} (h : Bd W b p v l) (hN : ∀ V, Stay (fun k => k = b ∨ v.ownBlock = some k) W V → EI.At V la s.N) (hS : ∀ V, Stay (fun k => k = b ∨ v.ownBlock = some k) W V → ES.At V lb s.S) (hP : ∀ V, Stay (fun k => k = b ∨ v.ownBlock = some k) W V → Pow V) (hn : s.N.length ≤ 1048576) (hm : s.S.length ≤ 1048576) (hb : bytesS s.S ≤ 1048576) (hl : l.length ≤ 4398046511104) :
    Calls Tryd.prog 19 #[.agg (shC f).toArray, Pt b, .agg #[.int .i64 s.k, .slice la s.N.length ca, .slice lb s.S.length cb, .int .i64 s.a, .int .i64 s.b, .int .i64 s.c]] W fun e W' => e = .returned (.tuple #[]) ∧ ∃ p' v', BW W b v W' p' v' (l ++ lineF f s) := by
  have hwf := shL_wf f hf
  have hpre := pre_len hf hs
  have hnI := numsF_I (f := f) hs
  obtain ⟨fk, fw, fn, ft, fo⟩ := f
  dsimp only at hwf
  obtain ⟨M, hM⟩ : ∃ M, M = s.S.length := ⟨_, rfl⟩
  obtain ⟨Q, hQ⟩ : ∃ Q, Q = s.N.length := ⟨_, rfl⟩
  rw [← hM, ← hQ]
  dsimp only [shC]
  obtain ⟨W1, hW1⟩ : ∃ W1, W1 = (W.alloc (.cells #[.int .i64 fk, .string fw, .int .i64 fn, .int .i64 ft, .bool fo] 48)).alloc (.cells #[.int .i64 s.k, .slice la Q ca, .slice lb M cb, .int .i64 s.a, .int .i64 s.b, .int .i64 s.c] 32) := ⟨_, rfl⟩
  have b0 : Below W.heap.size W (W.alloc (.cells #[.int .i64 fk, .string fw, .int .i64 fn, .int .i64 ft, .bool fo] 48)) := (Below.refl _ W).alloc (Nat.le_refl _) _
  have s0 : (W.alloc (.cells #[.int .i64 fk, .string fw, .int .i64 fn, .int .i64 ft, .bool fo] 48)).heap.size = W.heap.size + 1 := by simp
  have b1' : Below (W.alloc (.cells #[.int .i64 fk, .string fw, .int .i64 fn, .int .i64 ft, .bool fo] 48)).heap.size (W.alloc (.cells #[.int .i64 fk, .string fw, .int .i64 fn, .int .i64 ft, .bool fo] 48)) W1 := hW1 ▸ (Below.refl _ _).alloc (Nat.le_refl _) _
  have hb0 : W1.heap[W.heap.size]? = some (.cells #[.int .i64 fk, .string fw, .int .i64 fn, .int .i64 ft, .bool fo] 48 (0, 0)) := (b1'.block _ (by rw [s0]; omega)).trans (heap_alloc_last W _)
  have hb1 : W1.heap[W.heap.size + 1]? = some (.cells #[.int .i64 s.k, .slice la Q ca, .slice lb M cb, .int .i64 s.a, .int .i64 s.b, .int .i64 s.c] 32 (0, 0)) := by rw [← s0, hW1]; exact heap_alloc_last _ _
  have b1 : Below W.heap.size W W1 := chain b0 b1' (Nat.le_refl _)
  have bl : b < W.heap.size := (Array.getElem?_eq_some_iff.1 h.cells).1
  have vl : ∀ k, v.ownBlock = some k → k < W.heap.size := fun k hk => row_lt h.row hk
  have hcell : ∀ V, Stay (fun k => k = b ∨ v.ownBlock = some k) W1 V → V.cell? ⟨W.heap.size, 0, none⟩ = some (.int .i64 fk) ∧ V.cell? ⟨W.heap.size, 1, none⟩ = some (.string fw) ∧ V.cell? ⟨W.heap.size, 2, none⟩ = some (.int .i64 fn) ∧ V.cell? ⟨W.heap.size, 3, none⟩ = some (.int .i64 ft) ∧ V.cell? ⟨W.heap.size, 4, none⟩ = some (.bool fo) ∧ V.cell? ⟨W.heap.size + 1, 1, none⟩ = some (.slice la Q ca) ∧ V.cell? ⟨W.heap.size + 1, 2, none⟩ = some (.slice lb M cb) ∧ V.cell? ⟨W.heap.size + 1, 3, none⟩ = some (.int .i64 s.a) ∧ V.cell? ⟨W.heap.size + 1, 4, none⟩ = some (.int .i64 s.b) ∧ V.cell? ⟨W.heap.size + 1, 5, none⟩ = some (.int .i64 s.c) := by
    intro V st
    have g0 : V.heap[W.heap.size]? = _ := (st.block _ (Array.getElem?_eq_some_iff.1 hb0).1 (fun hf => by
      rcases hf with h1 | h1
      · omega
      · have := vl _ h1; omega)).trans hb0
    have g1 : V.heap[W.heap.size + 1]? = _ := (st.block _ (Array.getElem?_eq_some_iff.1 hb1).1 (fun hf => by
      rcases hf with h1 | h1
      · omega
      · have := vl _ h1; omega)).trans hb1
    refine ⟨?_, ?_, ?_, ?_, ?_, ?_, ?_, ?_, ?_, ?_⟩
    all_goals first
      | (rw [cell_of_row _ _ _ _ _ (0, 0) g0]; rfl)
      | (rw [cell_of_row _ _ _ _ _ (0, 0) g1]; rfl)
  have HS0 := Hid.mk (And.intro hM (And.intro hQ (And.intro hpre (And.intro hnI (And.intro hb (And.intro hl hwf))))))
  have HW1 := Hid.mk hW1
  have HH := Hid.mk (And.intro h (And.intro hN (And.intro hS hP)))
  have HC1 := Hid.mk hcell
  have HB1 := Hid.mk b1
  rw [hM.symm] at hm
  rw [hQ.symm] at hn
  obtain ⟨z0, z1, z2, z3, z4, z5, z6, z7, z8, z9⟩ := hcell W1 (.refl _ _)
  clear h hN hS hP hwf hpre hnI hb hl hM hQ hW1 b0 s0 b1' hb0 hb1 b1 bl vl hcell hf hs
  by_cases hk : fk = 1
  · subst hk
    obtain ⟨W2, hW2⟩ : ∃ W2, W2 = W1.alloc (.cells #[.int .i64 s.a, .int .i64 s.b, .int .i64 s.c] 3) := ⟨_, rfl⟩
    have b2 : Below W1.heap.size W1 W2 := hW2 ▸ (Below.refl _ W1).alloc (Nat.le_refl _) _
    have hb2 : W2.heap[W1.heap.size]? = some (.cells #[.int .i64 s.a, .int .i64 s.b, .int .i64 s.c] 3 (0, 0)) := hW2 ▸ heap_alloc_last W1 _
    have bw2 := HB1.out.trans (b2.mono HB1.out.size)
    have bl : b < W.heap.size := (Array.getElem?_eq_some_iff.1 HH.out.1.cells).1
    have vl : ∀ k, v.ownBlock = some k → k < W.heap.size := fun k hk => row_lt HH.out.1.row hk
    have s1 := HB1.out.size
    have s2 : W1.heap.size = W.heap.size + 1 + 1 := by rw [HW1.out]; simp
    have hAt : ∀ V, Stay (fun k => k = b ∨ v.ownBlock = some k) W2 V → EI.At V (some ⟨W.heap.size + 1 + 1, 0, none⟩) [s.a, s.b, s.c] := fun V st => ⟨fun _ => ⟨W.heap.size + 1 + 1, 0, rfl, fun j x hx => by
      rw [← s2]
      have g2 : V.heap[W1.heap.size]? = _ := (st.block _ (Array.getElem?_eq_some_iff.1 hb2).1 (fun hf => by
        rcases hf with h1 | h1
        · omega
        · have := vl _ h1; omega)).trans hb2
      rw [cell_of_row _ _ _ _ _ (0, 0) g2, Nat.zero_add]
      have hx' : ([.int .i64 s.a, .int .i64 s.b, .int .i64 s.c] : List Value)[j]? = some x := hx
      simpa using hx'⟩⟩
    obtain ⟨NL, hNL⟩ : ∃ NL, NL = [s.a, s.b, s.c] := ⟨_, rfl⟩
    rw [← hNL] at hAt
    have hnf : numsF ⟨1, fw, fn, ft, fo⟩ s = NL := by rw [hNL]; rfl
    have HNL := Hid.mk (And.intro hAt (And.intro (show NL.length ≤ 17592186044416 by rw [hNL]; show 3 ≤ _; omega) (And.intro (show 3 = NL.length by rw [hNL]; rfl) (And.intro (show ∀ n ∈ NL, I64 n from fun n hn => HS0.out.2.2.2.1 n (by rw [hnf]; exact hn)) hnf))))
    have HC := Hid.mk (fun (V : World) (st : Stay (fun k => k = b ∨ v.ownBlock = some k) W2 V) => HC1.out V ((Stay.below b2).trans st))
    have HB2 := Hid.mk (And.intro bw2 (And.intro HH.out.1 (And.intro (fun (V : World) (st : Stay (fun k => k = b ∨ v.ownBlock = some k) W2 V) => HH.out.2.2.1 V ((Stay.below bw2).trans st)) (fun (V : World) (st : Stay (fun k => k = b ∨ v.ownBlock = some k) W2 V) => HH.out.2.2.2 V ((Stay.below bw2).trans st)))))
    have HW2 := Hid.mk hW2
    clear b2 hb2 bw2 bl vl s1 s2 hAt hNL hnf hW2 HC1
    cases fo with
    | false =>
      have HS := Hid.mk (And.intro HS0.out.1 (And.intro (show timesF ⟨1, fw, fn, ft, false⟩ s = 1 from rfl) (And.intro HS0.out.2.2.1 (And.intro hm (And.intro HS0.out.2.2.2.2.1 (And.intro HS0.out.2.2.2.2.2.1 (show fw.size ≤ 7 ∧ fn ≤ 3 ∧ ft ≤ 1 from HS0.out.2.2.2.2.2.2.2.2)))))))
      clear HS0
      have hws := wb_str (HB2.out.2.1.below HB2.out.1) fw (by have := HS.out.2.2.2.2.2.2; have := HS.out.2.2.2.2.2.1; omega)
      go_enter Tryd.func19, Tryd.ntmps19
      go_wp2_with fail
      rw [← HW1.out]
      rw [← HW2.out]
      refine hws.mono ?_
      clear hws
      rintro r w3 ⟨rfl, v3, h3⟩
      have HI0 := Hid.mk (show ∃ p' v', BW W2 b v w3 p' v' (l ++ fw.data.toList ++ (List.range 0).flatMap (wordsF ⟨1, fw, fn, ft, false⟩ s)) from ⟨_, _, by simpa using h3⟩)
      clear h3
      go_wp2
      go_loopw [34] (fun u wr => ∃ i : Nat, u = .int .i64 i ∧ i ≤ 1 ∧ Hid (∃ p' v', BW W2 b v wr p' v' (l ++ fw.data.toList ++ (List.range i).flatMap (wordsF ⟨1, fw, fn, ft, false⟩ s)))) (fun u _ => 1 - (intOf u).toNat)
      case atStart => exact ⟨0, rfl, Nat.zero_le _, HI0⟩
      case round =>
        clear HI0
        obtain ⟨i, rfl, hi, HM⟩ := hrel
        by_cases hlt : i < 1
        · have i1 : (i : Int) < 1 := by omega
          have i2 : (0 : Int) ≤ (i : Int) := by omega
          obtain ⟨p1, v1, hB⟩ := HM.out
          have hcl := HC.out wr hB.st
          have y0 := hcl.2.2.1
          have y1 := hcl.2.2.2.1
          have y2 := hcl.2.2.2.2.2.2.1
          have hM20 := HS.out.2.2.2.1
          have hp1 := piece_int (cp := 3) NL i fn (HNL.out.1 wr.drew hB.st.drew) HNL.out.2.1 (by omega) (by have := HS.out.2.2.2.2.2.2; omega)
          rw [← HNL.out.2.2.1] at hp1
          have hp2 := fun (w4 : World) (b4 : Below wr.drew.heap.size wr.drew w4) => (show Calls Tryd.prog 36 #[.slice lb M cb, .int .i64 i, .int .i64 ft] w4 (fun e w' => ∃ b, e = .returned (.slice (some ⟨b, 0, none⟩) ft ft) ∧ ES.Row w' (.slice (some ⟨b, 0, none⟩) ft ft) (pieceL ⟨#[]⟩ s.S i ft) ∧ w4.heap.size ≤ b ∧ Below w4.heap.size w4 w') from by
            have hMs := HS.out.1
            subst hMs
            exact piece_str (cp := cb) s.S i ft (HB2.out.2.2.1 w4 (hB.st.drew.trans (.below b4))) (by omega) (by omega) (by have := HS.out.2.2.2.2.2.2; omega))
          have hpre := HS.out.2.2.1 i (by rw [HS.out.2.1]; omega)
          have hll : (l ++ fw.data.toList ++ (List.range i).flatMap (wordsF ⟨1, fw, fn, ft, false⟩ s)).length ≤ 70368744177664 := by
            rw [List.length_append, List.length_append]
            have e1 : fw.data.toList.length = fw.size := by simp
            have h1 := HS.out.2.2.2.2.1
            have h2 := HS.out.2.2.2.2.2.1
            have h3 := HS.out.2.2.2.2.2.2
            omega
          have hw := fun (w5 : World) (c1 c2 : Nat) (b5 : Below wr.drew.heap.size wr.drew w5) r1 r2 (h1 : wr.heap.size ≤ c1) (h2 : wr.heap.size ≤ c2) => words_at (w5 := w5) (c1 := c1) (c2 := c2) (n := fn) (t := ft) (ns := pieceL 0 NL i fn) (ts := pieceL ⟨#[]⟩ s.S i ft) hB (below_d b5) r1 (pieceL_len ..).symm r2 (pieceL_len ..).symm h1 h2 HB2.out.2.2.2 (piece_I HNL.out.2.2.2.1 i fn) (by rw [pieceL_len]; have := HS.out.2.2.2.2.2.2; omega) (by rw [pieceL_len]; have := HS.out.2.2.2.2.2.2; omega) (by have h3 := piece_one s.S i ft (by have := HS.out.2.2.2.2.2.2; omega); have h4 := HS.out.2.2.2.2.1; omega) hll
          have HW := Hid.mk hw
          have hsn : (List.range (i + 1)).flatMap (wordsF ⟨1, fw, fn, ft, false⟩ s) = (List.range i).flatMap (wordsF ⟨1, fw, fn, ft, false⟩ s) ++ (numsL (pieceL 0 NL i fn) ++ txtsL (pieceL ⟨#[]⟩ s.S i ft)) := by
            have e1 : wordsF ⟨1, fw, fn, ft, false⟩ s i = numsL (pieceL 0 NL i fn) ++ txtsL (pieceL ⟨#[]⟩ s.S i ft) := by
              unfold wordsF
              rw [HNL.out.2.2.2.2]
            rw [List.range_succ, List.flatMap_append, List.flatMap_cons, List.flatMap_nil, List.append_nil, e1]
          have HSN := Hid.mk hsn
          clear hw hsn hll hpre HM hcl hB
          go_wp2_with fail
          refine wp_region_held_drew (S := fun w' => w'.cell? ⟨W.heap.size, 2, none⟩ = some (.int .i64 fn) ∧ w'.cell? ⟨W.heap.size, 3, none⟩ = some (.int .i64 ft) ∧ w'.cell? ⟨W.heap.size + 1, 2, none⟩ = some (.slice lb M cb)) (by kernel_rfl) ?_ (fun hHeld => ?_)
          · exact ⟨y0, y1, y2⟩
          refine wpAnyH_take (i := 0) (oi := { dst := some 37, op := Op.move (Operand.tmp 1), type := 43, pos := "shapes.go:120", after := #[], guard := none }) (v := ?vaf0) rfl (by kernel_rfl) (by kernel_rfl) (by kernel_rfl) (fun _ _ _ h => h) (Or.inl ⟨by rfl, ?haf0⟩) (by assumption) ?raf0
          case haf0 => (intro w0 hSw; (try dsimp only at hSw); go_simp; first | done | (with_reducible rfl) | (rw [if_pos (by omega)]; try (with_reducible rfl)))
          simp only [Act.put, List.setIfInBounds_toArray, List.set_cons_zero, List.set_cons_succ]
          refine wpAnyH_take (i := 1) (oi := { dst := some 38, op := Op.move (Operand.tmp 6), type := 27, pos := "shapes.go:120", after := #[], guard := none }) (v := ?vaf1) rfl (by kernel_rfl) (by kernel_rfl) (by kernel_rfl) (fun _ _ _ h => h) (Or.inl ⟨by rfl, ?haf1⟩) (by assumption) ?raf1
          case haf1 => (intro w0 hSw; (try dsimp only at hSw); go_simp; first | done | (with_reducible rfl) | (rw [if_pos (by omega)]; try (with_reducible rfl)))
          simp only [Act.put, List.setIfInBounds_toArray, List.set_cons_zero, List.set_cons_succ]
          refine wpAnyH_take (i := 2) (oi := { dst := some 39, op := Op.move (Operand.tmp 8), type := 3, pos := "shapes.go:120", after := #[], guard := none }) (v := ?vaf2) rfl (by kernel_rfl) (by kernel_rfl) (by kernel_rfl) (fun _ _ _ h => h) (Or.inl ⟨by rfl, ?haf2⟩) (by assumption) ?raf2
          case haf2 => (intro w0 hSw; (try dsimp only at hSw); go_simp; first | done | (with_reducible rfl) | (rw [if_pos (by omega)]; try (with_reducible rfl)))
          simp only [Act.put, List.setIfInBounds_toArray, List.set_cons_zero, List.set_cons_succ]
          refine wpAnyH_take (i := 3) (oi := { dst := some 40, op := Op.fieldAddr 48 (Operand.tmp 3) 2, type := 0, pos := "shapes.go:120", after := #[], guard := none }) (v := ?vaf3) rfl (by kernel_rfl) (by kernel_rfl) (by kernel_rfl) (fun _ _ _ h => h) (Or.inl ⟨by rfl, ?haf3⟩) (by assumption) ?raf3
          case haf3 => (intro w0 hSw; (try dsimp only at hSw); go_simp; first | done | (with_reducible rfl) | (rw [if_pos (by omega)]; try (with_reducible rfl)))
          simp only [Act.put, List.setIfInBounds_toArray, List.set_cons_zero, List.set_cons_succ]
          refine wpAnyH_take (i := 4) (oi := { dst := some 41, op := Op.load 3 (Operand.tmp 40), type := 3, pos := "shapes.go:120", after := #[{ on := 3, ground := Ground.data }], guard := none }) (v := ?vaf4) rfl (by kernel_rfl) (by kernel_rfl) (by kernel_rfl) (fun _ _ _ h => h) (Or.inl ⟨by rfl, ?haf4⟩) (by assumption) ?raf4
          case haf4 => (intro w0 hSw; (try dsimp only at hSw); go_simp; first | done | (with_reducible rfl) | (rw [if_pos (by omega)]; try (with_reducible rfl)))
          simp only [Act.put, List.setIfInBounds_toArray, List.set_cons_zero, List.set_cons_succ]
          refine wpAnyH_take (i := 6) (oi := { dst := some 43, op := Op.fieldAddr 32 (Operand.tmp 5) 2, type := 0, pos := "shapes.go:120", after := #[], guard := none }) (v := ?vaf6) rfl (by kernel_rfl) (by kernel_rfl) (by kernel_rfl) (fun _ _ _ h => h) (Or.inl ⟨by rfl, ?haf6⟩) (by assumption) ?raf6
          case haf6 => (intro w0 hSw; (try dsimp only at hSw); go_simp; first | done | (with_reducible rfl) | (rw [if_pos (by omega)]; try (with_reducible rfl)))
          simp only [Act.put, List.setIfInBounds_toArray, List.set_cons_zero, List.set_cons_succ]
          refine wpAnyH_take (i := 7) (oi := { dst := some 44, op := Op.load 28 (Operand.tmp 43), type := 28, pos := "shapes.go:120", after := #[{ on := 6, ground := Ground.data }], guard := none }) (v := ?vaf7) rfl (by kernel_rfl) (by kernel_rfl) (by kernel_rfl) (fun _ _ _ h => h) (Or.inl ⟨by rfl, ?haf7⟩) (by assumption) ?raf7
          case haf7 => (intro w0 hSw; (try dsimp only at hSw); go_simp; first | done | (with_reducible rfl) | (rw [if_pos (by omega)]; try (with_reducible rfl)))
          simp only [Act.put, List.setIfInBounds_toArray, List.set_cons_zero, List.set_cons_succ]
          refine wpAnyH_take (i := 8) (oi := { dst := some 45, op := Op.move (Operand.tmp 8), type := 3, pos := "shapes.go:120", after := #[], guard := none }) (v := ?vaf8) rfl (by kernel_rfl) (by kernel_rfl) (by kernel_rfl) (fun _ _ _ h => h) (Or.inl ⟨by rfl, ?haf8⟩) (by assumption) ?raf8
          case haf8 => (intro w0 hSw; (try dsimp only at hSw); go_simp; first | done | (with_reducible rfl) | (rw [if_pos (by omega)]; try (with_reducible rfl)))
          simp only [Act.put, List.setIfInBounds_toArray, List.set_cons_zero, List.set_cons_succ]
          refine wpAnyH_take (i := 9) (oi := { dst := some 46, op := Op.fieldAddr 48 (Operand.tmp 3) 3, type := 0, pos := "shapes.go:120", after := #[], guard := none }) (v := ?vaf9) rfl (by kernel_rfl) (by kernel_rfl) (by kernel_rfl) (fun _ _ _ h => h) (Or.inl ⟨by rfl, ?haf9⟩) (by assumption) ?raf9
          case haf9 => (intro w0 hSw; (try dsimp only at hSw); go_simp; first | done | (with_reducible rfl) | (rw [if_pos (by omega)]; try (with_reducible rfl)))
          simp only [Act.put, List.setIfInBounds_toArray, List.set_cons_zero, List.set_cons_succ]
          refine wpAnyH_take (i := 10) (oi := { dst := some 47, op := Op.load 3 (Operand.tmp 46), type := 3, pos := "shapes.go:120", after := #[{ on := 9, ground := Ground.data }], guard := none }) (v := ?vaf10) rfl (by kernel_rfl) (by kernel_rfl) (by kernel_rfl) (fun _ _ _ h => h) (Or.inl ⟨by rfl, ?haf10⟩) (by assumption) ?raf10
          case haf10 => (intro w0 hSw; (try dsimp only at hSw); go_simp; first | done | (with_reducible rfl) | (rw [if_pos (by omega)]; try (with_reducible rfl)))
          simp only [Act.put, List.setIfInBounds_toArray, List.set_cons_zero, List.set_cons_succ]
          refine wpAnyH_ready (rs := [5]) (by kernel_rfl) (by simp) ?_
          refine AllReadyH.cons rfl (fun K hK => ?_) AllReadyH.nil
          go_simp
          go_wp2_with (go_at_call 35; refine hp1.mono ?_; clear hp1; rintro r w4 ⟨c1, rfl, hr1, hc1, b4⟩)
          refine hK.out _ _ ?_ (fun hHeld => ?_)
          · exact ⟨cell_l b4 y0, cell_l b4 y1, cell_l b4 y2⟩
          clear hK K
          have hp2' := hp2 w4 b4
          clear hp2
          refine wpAnyH_ready (rs := [11]) (by kernel_rfl) (by simp) ?_
          refine AllReadyH.cons rfl (fun K hK => ?_) AllReadyH.nil
          go_simp
          go_wp2_with (go_at_call 36; refine hp2'.mono ?_; clear hp2'; rintro r w5 ⟨c2, rfl, hr2, hc2, b5⟩)
          have b45 := chain b4 b5 (Nat.le_refl _)
          refine hK.out _ _ ?_ (fun hHeld => ?_)
          · exact ⟨cell_l b45 y0, cell_l b45 y1, cell_l b45 y2⟩
          clear hK K
          have hww := HW.out w5 c1 c2 b45 (hr1.below b5) hr2 hc1 (Nat.le_trans b4.size hc2)
          refine wpAnyH_ready (rs := [12]) (by kernel_rfl) (by simp) ?_
          refine AllReadyH.cons rfl (fun K hK => ?_) AllReadyH.nil
          go_simp
          go_wp2_with (go_at_call 34; refine hww.mono ?_; clear hww; rintro r w6 ⟨rfl, p6, v6, h6⟩)
          have y3 := HC.out w6 h6.st
          refine hK.out _ _ ?_ (fun hHeld => ?_)
          · exact ⟨y3.2.2.1, y3.2.2.2.1, y3.2.2.2.2.2.2.1⟩
          clear hK K y3
          refine wpAnyH_done (by kernel_rfl) ?_ _
          have HN := Hid.mk (show ∃ p' v', BW W2 b v w6 p' v' (l ++ fw.data.toList ++ (List.range (i + 1)).flatMap (wordsF ⟨1, fw, fn, ft, false⟩ s)) from ⟨p6, v6, by
            rw [HSN.out, ← List.append_assoc]; exact h6⟩)
          clear h6 hr1 hr2 b4 b5 b45 HW
          go_wp2
          exact ⟨⟨i + 1, rfl, hlt, HN⟩, by simp only [intOf]; omega⟩
        · have e : i = 1 := by omega
          subst e
          obtain ⟨p1, v1, hB⟩ := HM.out
          have hll : (l ++ fw.data.toList ++ (List.range 1).flatMap (wordsF ⟨1, fw, fn, ft, false⟩ s)).length + 1 ≤ 140737488355328 := by
            have hpre := HS.out.2.2.1 1 (by rw [HS.out.2.1]; omega)
            rw [List.length_append, List.length_append]
            have e1 : fw.data.toList.length = fw.size := by simp
            have h0 := HS.out.2.2.2.1
            have h1 := HS.out.2.2.2.2.1
            have h2 := HS.out.2.2.2.2.2.1
            have h3 := HS.out.2.2.2.2.2.2
            omega
          have hwb : Calls Tryd.prog 37 #[Pt b, .int .u8 10] wr _ := wb_byte hB.bd 10 hll
          have HB := Hid.mk hB
          clear hll hB HM
          go_wp2_with fail
          refine hwb.mono ?_
          clear hwb
          rintro r w6 ⟨rfl, v6, h6⟩
          have HFin := Hid.mk (show ∃ p' v', BW W b v w6 p' v' (l ++ lineF ⟨1, fw, fn, ft, false⟩ s) from ⟨_, _, by
            have h7 := (HB.out.trans h6).pre HB2.out.1
            unfold lineF
            rw [HS.out.2.1]
            simp only [List.append_assoc] at h7 ⊢
            exact h7⟩)
          clear h6 HB
          go_wp2
          go_end0
          exact ⟨rfl, HFin.out⟩
    | true =>
      have HS := Hid.mk (And.intro HS0.out.1 (And.intro (show timesF ⟨1, fw, fn, ft, true⟩ s = M from Eq.trans rfl HS0.out.1.symm) (And.intro HS0.out.2.2.1 (And.intro hm (And.intro HS0.out.2.2.2.2.1 (And.intro HS0.out.2.2.2.2.2.1 (show fw.size ≤ 7 ∧ fn ≤ 3 ∧ ft ≤ 1 from HS0.out.2.2.2.2.2.2.2.2)))))))
      clear HS0
      have hws := wb_str (HB2.out.2.1.below HB2.out.1) fw (by have := HS.out.2.2.2.2.2.2; have := HS.out.2.2.2.2.2.1; omega)
      go_enter Tryd.func19, Tryd.ntmps19
      go_wp2_with fail
      rw [← HW1.out]
      rw [← HW2.out]
      refine hws.mono ?_
      clear hws
      rintro r w3 ⟨rfl, v3, h3⟩
      have HI0 := Hid.mk (show ∃ p' v', BW W2 b v w3 p' v' (l ++ fw.data.toList ++ (List.range 0).flatMap (wordsF ⟨1, fw, fn, ft, true⟩ s)) from ⟨_, _, by simpa using h3⟩)
      clear h3
      go_wp2
      go_loopw [34] (fun u wr => ∃ i : Nat, u = .int .i64 i ∧ i ≤ M ∧ Hid (∃ p' v', BW W2 b v wr p' v' (l ++ fw.data.toList ++ (List.range i).flatMap (wordsF ⟨1, fw, fn, ft, true⟩ s)))) (fun u _ => M - (intOf u).toNat)
      case atStart => exact ⟨0, rfl, Nat.zero_le _, HI0⟩
      case round =>
        clear HI0
        obtain ⟨i, rfl, hi, HM⟩ := hrel
        by_cases hlt : i < M
        · have i1 : (i : Int) < (M : Int) := by omega
          have i2 : (0 : Int) ≤ (i : Int) := by omega
          obtain ⟨p1, v1, hB⟩ := HM.out
          have hcl := HC.out wr hB.st
          have y0 := hcl.2.2.1
          have y1 := hcl.2.2.2.1
          have y2 := hcl.2.2.2.2.2.2.1
          have hM20 := HS.out.2.2.2.1
          have hp1 := piece_int (cp := 3) NL i fn (HNL.out.1 wr.drew hB.st.drew) HNL.out.2.1 (by omega) (by have := HS.out.2.2.2.2.2.2; omega)
          rw [← HNL.out.2.2.1] at hp1
          have hp2 := fun (w4 : World) (b4 : Below wr.drew.heap.size wr.drew w4) => (show Calls Tryd.prog 36 #[.slice lb M cb, .int .i64 i, .int .i64 ft] w4 (fun e w' => ∃ b, e = .returned (.slice (some ⟨b, 0, none⟩) ft ft) ∧ ES.Row w' (.slice (some ⟨b, 0, none⟩) ft ft) (pieceL ⟨#[]⟩ s.S i ft) ∧ w4.heap.size ≤ b ∧ Below w4.heap.size w4 w') from by
            have hMs := HS.out.1
            subst hMs
            exact piece_str (cp := cb) s.S i ft (HB2.out.2.2.1 w4 (hB.st.drew.trans (.below b4))) (by omega) (by omega) (by have := HS.out.2.2.2.2.2.2; omega))
          have hpre := HS.out.2.2.1 i (by rw [HS.out.2.1]; omega)
          have hll : (l ++ fw.data.toList ++ (List.range i).flatMap (wordsF ⟨1, fw, fn, ft, true⟩ s)).length ≤ 70368744177664 := by
            rw [List.length_append, List.length_append]
            have e1 : fw.data.toList.length = fw.size := by simp
            have h1 := HS.out.2.2.2.2.1
            have h2 := HS.out.2.2.2.2.2.1
            have h3 := HS.out.2.2.2.2.2.2
            omega
          have hw := fun (w5 : World) (c1 c2 : Nat) (b5 : Below wr.drew.heap.size wr.drew w5) r1 r2 (h1 : wr.heap.size ≤ c1) (h2 : wr.heap.size ≤ c2) => words_at (w5 := w5) (c1 := c1) (c2 := c2) (n := fn) (t := ft) (ns := pieceL 0 NL i fn) (ts := pieceL ⟨#[]⟩ s.S i ft) hB (below_d b5) r1 (pieceL_len ..).symm r2 (pieceL_len ..).symm h1 h2 HB2.out.2.2.2 (piece_I HNL.out.2.2.2.1 i fn) (by rw [pieceL_len]; have := HS.out.2.2.2.2.2.2; omega) (by rw [pieceL_len]; have := HS.out.2.2.2.2.2.2; omega) (by have h3 := piece_one s.S i ft (by have := HS.out.2.2.2.2.2.2; omega); have h4 := HS.out.2.2.2.2.1; omega) hll
          have HW := Hid.mk hw
          have hsn : (List.range (i + 1)).flatMap (wordsF ⟨1, fw, fn, ft, true⟩ s) = (List.range i).flatMap (wordsF ⟨1, fw, fn, ft, true⟩ s) ++ (numsL (pieceL 0 NL i fn) ++ txtsL (pieceL ⟨#[]⟩ s.S i ft)) := by
            have e1 : wordsF ⟨1, fw, fn, ft, true⟩ s i = numsL (pieceL 0 NL i fn) ++ txtsL (pieceL ⟨#[]⟩ s.S i ft) := by
              unfold wordsF
              rw [HNL.out.2.2.2.2]
            rw [List.range_succ, List.flatMap_append, List.flatMap_cons, List.flatMap_nil, List.append_nil, e1]
          have HSN := Hid.mk hsn
          clear hw hsn hll hpre HM hcl hB
          go_wp2_with fail
          refine wp_region_held_drew (S := fun w' => w'.cell? ⟨W.heap.size, 2, none⟩ = some (.int .i64 fn) ∧ w'.cell? ⟨W.heap.size, 3, none⟩ = some (.int .i64 ft) ∧ w'.cell? ⟨W.heap.size + 1, 2, none⟩ = some (.slice lb M cb)) (by kernel_rfl) ?_ (fun hHeld => ?_)
          · exact ⟨y0, y1, y2⟩
          refine wpAnyH_take (i := 0) (oi := { dst := some 37, op := Op.move (Operand.tmp 1), type := 43, pos := "shapes.go:120", after := #[], guard := none }) (v := ?vat0) rfl (by kernel_rfl) (by kernel_rfl) (by kernel_rfl) (fun _ _ _ h => h) (Or.inl ⟨by rfl, ?hat0⟩) (by assumption) ?rat0
          case hat0 => (intro w0 hSw; (try dsimp only at hSw); go_simp; first | done | (with_reducible rfl) | (rw [if_pos (by omega)]; try (with_reducible rfl)))
          simp only [Act.put, List.setIfInBounds_toArray, List.set_cons_zero, List.set_cons_succ]
          refine wpAnyH_take (i := 1) (oi := { dst := some 38, op := Op.move (Operand.tmp 6), type := 27, pos := "shapes.go:120", after := #[], guard := none }) (v := ?vat1) rfl (by kernel_rfl) (by kernel_rfl) (by kernel_rfl) (fun _ _ _ h => h) (Or.inl ⟨by rfl, ?hat1⟩) (by assumption) ?rat1
          case hat1 => (intro w0 hSw; (try dsimp only at hSw); go_simp; first | done | (with_reducible rfl) | (rw [if_pos (by omega)]; try (with_reducible rfl)))
          simp only [Act.put, List.setIfInBounds_toArray, List.set_cons_zero, List.set_cons_succ]
          refine wpAnyH_take (i := 2) (oi := { dst := some 39, op := Op.move (Operand.tmp 8), type := 3, pos := "shapes.go:120", after := #[], guard := none }) (v := ?vat2) rfl (by kernel_rfl) (by kernel_rfl) (by kernel_rfl) (fun _ _ _ h => h) (Or.inl ⟨by rfl, ?hat2⟩) (by assumption) ?rat2
          case hat2 => (intro w0 hSw; (try dsimp only at hSw); go_simp; first | done | (with_reducible rfl) | (rw [if_pos (by omega)]; try (with_reducible rfl)))
          simp only [Act.put, List.setIfInBounds_toArray, List.set_cons_zero, List.set_cons_succ]
          refine wpAnyH_take (i := 3) (oi := { dst := some 40, op := Op.fieldAddr 48 (Operand.tmp 3) 2, type := 0, pos := "shapes.go:120", after := #[], guard := none }) (v := ?vat3) rfl (by kernel_rfl) (by kernel_rfl) (by kernel_rfl) (fun _ _ _ h => h) (Or.inl ⟨by rfl, ?hat3⟩) (by assumption) ?rat3
          case hat3 => (intro w0 hSw; (try dsimp only at hSw); go_simp; first | done | (with_reducible rfl) | (rw [if_pos (by omega)]; try (with_reducible rfl)))
          simp only [Act.put, List.setIfInBounds_toArray, List.set_cons_zero, List.set_cons_succ]
          refine wpAnyH_take (i := 4) (oi := { dst := some 41, op := Op.load 3 (Operand.tmp 40), type := 3, pos := "shapes.go:120", after := #[{ on := 3, ground := Ground.data }], guard := none }) (v := ?vat4) rfl (by kernel_rfl) (by kernel_rfl) (by kernel_rfl) (fun _ _ _ h => h) (Or.inl ⟨by rfl, ?hat4⟩) (by assumption) ?rat4
          case hat4 => (intro w0 hSw; (try dsimp only at hSw); go_simp; first | done | (with_reducible rfl) | (rw [if_pos (by omega)]; try (with_reducible rfl)))
          simp only [Act.put, List.setIfInBounds_toArray, List.set_cons_zero, List.set_cons_succ]
          refine wpAnyH_take (i := 6) (oi := { dst := some 43, op := Op.fieldAddr 32 (Operand.tmp 5) 2, type := 0, pos := "shapes.go:120", after := #[], guard := none }) (v := ?vat6) rfl (by kernel_rfl) (by kernel_rfl) (by kernel_rfl) (fun _ _ _ h => h) (Or.inl ⟨by rfl, ?hat6⟩) (by assumption) ?rat6
          case hat6 => (intro w0 hSw; (try dsimp only at hSw); go_simp; first | done | (with_reducible rfl) | (rw [if_pos (by omega)]; try (with_reducible rfl)))
          simp only [Act.put, List.setIfInBounds_toArray, List.set_cons_zero, List.set_cons_succ]
          refine wpAnyH_take (i := 7) (oi := { dst := some 44, op := Op.load 28 (Operand.tmp 43), type := 28, pos := "shapes.go:120", after := #[{ on := 6, ground := Ground.data }], guard := none }) (v := ?vat7) rfl (by kernel_rfl) (by kernel_rfl) (by kernel_rfl) (fun _ _ _ h => h) (Or.inl ⟨by rfl, ?hat7⟩) (by assumption) ?rat7
          case hat7 => (intro w0 hSw; (try dsimp only at hSw); go_simp; first | done | (with_reducible rfl) | (rw [if_pos (by omega)]; try (with_reducible rfl)))
          simp only [Act.put, List.setIfInBounds_toArray, List.set_cons_zero, List.set_cons_succ]
          refine wpAnyH_take (i := 8) (oi := { dst := some 45, op := Op.move (Operand.tmp 8), type := 3, pos := "shapes.go:120", after := #[], guard := none }) (v := ?vat8) rfl (by kernel_rfl) (by kernel_rfl) (by kernel_rfl) (fun _ _ _ h => h) (Or.inl ⟨by rfl, ?hat8⟩) (by assumption) ?rat8
          case hat8 => (intro w0 hSw; (try dsimp only at hSw); go_simp; first | done | (with_reducible rfl) | (rw [if_pos (by omega)]; try (with_reducible rfl)))
          simp only [Act.put, List.setIfInBounds_toArray, List.set_cons_zero, List.set_cons_succ]
          refine wpAnyH_take (i := 9) (oi := { dst := some 46, op := Op.fieldAddr 48 (Operand.tmp 3) 3, type := 0, pos := "shapes.go:120", after := #[], guard := none }) (v := ?vat9) rfl (by kernel_rfl) (by kernel_rfl) (by kernel_rfl) (fun _ _ _ h => h) (Or.inl ⟨by rfl, ?hat9⟩) (by assumption) ?rat9
          case hat9 => (intro w0 hSw; (try dsimp only at hSw); go_simp; first | done | (with_reducible rfl) | (rw [if_pos (by omega)]; try (with_reducible rfl)))
          simp only [Act.put, List.setIfInBounds_toArray, List.set_cons_zero, List.set_cons_succ]
          refine wpAnyH_take (i := 10) (oi := { dst := some 47, op := Op.load 3 (Operand.tmp 46), type := 3, pos := "shapes.go:120", after := #[{ on := 9, ground := Ground.data }], guard := none }) (v := ?vat10) rfl (by kernel_rfl) (by kernel_rfl) (by kernel_rfl) (fun _ _ _ h => h) (Or.inl ⟨by rfl, ?hat10⟩) (by assumption) ?rat10
          case hat10 => (intro w0 hSw; (try dsimp only at hSw); go_simp; first | done | (with_reducible rfl) | (rw [if_pos (by omega)]; try (with_reducible rfl)))
          simp only [Act.put, List.setIfInBounds_toArray, List.set_cons_zero, List.set_cons_succ]
          refine wpAnyH_ready (rs := [5]) (by kernel_rfl) (by simp) ?_
          refine AllReadyH.cons rfl (fun K hK => ?_) AllReadyH.nil
          go_simp
          go_wp2_with (go_at_call 35; refine hp1.mono ?_; clear hp1; rintro r w4 ⟨c1, rfl, hr1, hc1, b4⟩)
          refine hK.out _ _ ?_ (fun hHeld => ?_)
          · exact ⟨cell_l b4 y0, cell_l b4 y1, cell_l b4 y2⟩
          clear hK K
          have hp2' := hp2 w4 b4
          clear hp2
          refine wpAnyH_ready (rs := [11]) (by kernel_rfl) (by simp) ?_
          refine AllReadyH.cons rfl (fun K hK => ?_) AllReadyH.nil
          go_simp
          go_wp2_with (go_at_call 36; refine hp2'.mono ?_; clear hp2'; rintro r w5 ⟨c2, rfl, hr2, hc2, b5⟩)
          have b45 := chain b4 b5 (Nat.le_refl _)
          refine hK.out _ _ ?_ (fun hHeld => ?_)
          · exact ⟨cell_l b45 y0, cell_l b45 y1, cell_l b45 y2⟩
          clear hK K
          have hww := HW.out w5 c1 c2 b45 (hr1.below b5) hr2 hc1 (Nat.le_trans b4.size hc2)
          refine wpAnyH_ready (rs := [12]) (by kernel_rfl) (by simp) ?_
          refine AllReadyH.cons rfl (fun K hK => ?_) AllReadyH.nil
          go_simp
          go_wp2_with (go_at_call 34; refine hww.mono ?_; clear hww; rintro r w6 ⟨rfl, p6, v6, h6⟩)
          have y3 := HC.out w6 h6.st
          refine hK.out _ _ ?_ (fun hHeld => ?_)
          · exact ⟨y3.2.2.1, y3.2.2.2.1, y3.2.2.2.2.2.2.1⟩
          clear hK K y3
          refine wpAnyH_done (by kernel_rfl) ?_ _
          have HN := Hid.mk (show ∃ p' v', BW W2 b v w6 p' v' (l ++ fw.data.toList ++ (List.range (i + 1)).flatMap (wordsF ⟨1, fw, fn, ft, true⟩ s)) from ⟨p6, v6, by
            rw [HSN.out, ← List.append_assoc]; exact h6⟩)
          clear h6 hr1 hr2 b4 b5 b45 HW
          go_wp2
          exact ⟨⟨i + 1, rfl, hlt, HN⟩, by simp only [intOf]; omega⟩
        · have e : i = M := by omega
          subst e
          obtain ⟨p1, v1, hB⟩ := HM.out
          have hll : (l ++ fw.data.toList ++ (List.range i).flatMap (wordsF ⟨1, fw, fn, ft, true⟩ s)).length + 1 ≤ 140737488355328 := by
            have hpre := HS.out.2.2.1 i (by rw [HS.out.2.1]; omega)
            rw [List.length_append, List.length_append]
            have e1 : fw.data.toList.length = fw.size := by simp
            have h0 := HS.out.2.2.2.1
            have h1 := HS.out.2.2.2.2.1
            have h2 := HS.out.2.2.2.2.2.1
            have h3 := HS.out.2.2.2.2.2.2
            omega
          have hwb : Calls Tryd.prog 37 #[Pt b, .int .u8 10] wr _ := wb_byte hB.bd 10 hll
          have HB := Hid.mk hB
          clear hll hB HM
          go_wp2_with fail
          refine hwb.mono ?_
          clear hwb
          rintro r w6 ⟨rfl, v6, h6⟩
          have HFin := Hid.mk (show ∃ p' v', BW W b v w6 p' v' (l ++ lineF ⟨1, fw, fn, ft, true⟩ s) from ⟨_, _, by
            have h7 := (HB.out.trans h6).pre HB2.out.1
            unfold lineF
            rw [HS.out.2.1]
            simp only [List.append_assoc] at h7 ⊢
            exact h7⟩)
          clear h6 HB
          go_wp2
          go_end0
          exact ⟨rfl, HFin.out⟩
  · obtain ⟨W2, hW2⟩ : ∃ W2, W2 = W1 := ⟨_, rfl⟩
    subst hW2
    have hnf : numsF ⟨fk, fw, fn, ft, fo⟩ s = s.N := by unfold numsF; rw [if_neg hk]
    obtain ⟨NL, hNL⟩ : ∃ NL, NL = s.N := ⟨_, rfl⟩
    have HNL := Hid.mk (And.intro (show ∀ V, Stay (fun k => k = b ∨ v.ownBlock = some k) W2 V → EI.At V la NL from fun V st => by rw [hNL]; exact HH.out.2.1 V ((Stay.below HB1.out).trans st)) (And.intro (show NL.length ≤ 17592186044416 by rw [hNL, ← HS0.out.2.1]; omega) (And.intro (show Q = NL.length by rw [hNL]; exact HS0.out.2.1) (And.intro (show ∀ n ∈ NL, I64 n from fun n hn => HS0.out.2.2.2.1 n (by rw [hnf, ← hNL]; exact hn)) (show numsF ⟨fk, fw, fn, ft, fo⟩ s = NL by rw [hnf, hNL])))))
    have HC := HC1
    have HB2 := Hid.mk (And.intro HB1.out (And.intro HH.out.1 (And.intro (fun (V : World) (st : Stay (fun k => k = b ∨ v.ownBlock = some k) W2 V) => HH.out.2.2.1 V ((Stay.below HB1.out).trans st)) (fun (V : World) (st : Stay (fun k => k = b ∨ v.ownBlock = some k) W2 V) => HH.out.2.2.2 V ((Stay.below HB1.out).trans st)))))
    clear hNL hnf HC1
    cases fo with
    | false =>
      have HS := Hid.mk (And.intro HS0.out.1 (And.intro (show timesF ⟨fk, fw, fn, ft, false⟩ s = 1 from rfl) (And.intro HS0.out.2.2.1 (And.intro hm (And.intro HS0.out.2.2.2.2.1 (And.intro HS0.out.2.2.2.2.2.1 (show fw.size ≤ 7 ∧ fn ≤ 3 ∧ ft ≤ 1 from HS0.out.2.2.2.2.2.2.2.2)))))))
      clear HS0
      have hws := wb_str (HB2.out.2.1.below HB2.out.1) fw (by have := HS.out.2.2.2.2.2.2; have := HS.out.2.2.2.2.2.1; omega)
      go_enter Tryd.func19, Tryd.ntmps19
      go_wp2_with fail
      rw [← HW1.out]
      refine hws.mono ?_
      clear hws
      rintro r w3 ⟨rfl, v3, h3⟩
      have HI0 := Hid.mk (show ∃ p' v', BW W2 b v w3 p' v' (l ++ fw.data.toList ++ (List.range 0).flatMap (wordsF ⟨fk, fw, fn, ft, false⟩ s)) from ⟨_, _, by simpa using h3⟩)
      clear h3
      go_wp2
      go_loopw [34] (fun u wr => ∃ i : Nat, u = .int .i64 i ∧ i ≤ 1 ∧ Hid (∃ p' v', BW W2 b v wr p' v' (l ++ fw.data.toList ++ (List.range i).flatMap (wordsF ⟨fk, fw, fn, ft, false⟩ s)))) (fun u _ => 1 - (intOf u).toNat)
      case atStart => exact ⟨0, rfl, Nat.zero_le _, HI0⟩
      case round =>
        clear HI0
        obtain ⟨i, rfl, hi, HM⟩ := hrel
        by_cases hlt : i < 1
        · have i1 : (i : Int) < 1 := by omega
          have i2 : (0 : Int) ≤ (i : Int) := by omega
          obtain ⟨p1, v1, hB⟩ := HM.out
          have hcl := HC.out wr hB.st
          have y0 := hcl.2.2.1
          have y1 := hcl.2.2.2.1
          have y2 := hcl.2.2.2.2.2.2.1
          have hM20 := HS.out.2.2.2.1
          have hp1 := piece_int (cp := ca) NL i fn (HNL.out.1 wr.drew hB.st.drew) HNL.out.2.1 (by omega) (by have := HS.out.2.2.2.2.2.2; omega)
          rw [← HNL.out.2.2.1] at hp1
          have hp2 := fun (w4 : World) (b4 : Below wr.drew.heap.size wr.drew w4) => (show Calls Tryd.prog 36 #[.slice lb M cb, .int .i64 i, .int .i64 ft] w4 (fun e w' => ∃ b, e = .returned (.slice (some ⟨b, 0, none⟩) ft ft) ∧ ES.Row w' (.slice (some ⟨b, 0, none⟩) ft ft) (pieceL ⟨#[]⟩ s.S i ft) ∧ w4.heap.size ≤ b ∧ Below w4.heap.size w4 w') from by
            have hMs := HS.out.1
            subst hMs
            exact piece_str (cp := cb) s.S i ft (HB2.out.2.2.1 w4 (hB.st.drew.trans (.below b4))) (by omega) (by omega) (by have := HS.out.2.2.2.2.2.2; omega))
          have hpre := HS.out.2.2.1 i (by rw [HS.out.2.1]; omega)
          have hll : (l ++ fw.data.toList ++ (List.range i).flatMap (wordsF ⟨fk, fw, fn, ft, false⟩ s)).length ≤ 70368744177664 := by
            rw [List.length_append, List.length_append]
            have e1 : fw.data.toList.length = fw.size := by simp
            have h1 := HS.out.2.2.2.2.1
            have h2 := HS.out.2.2.2.2.2.1
            have h3 := HS.out.2.2.2.2.2.2
            omega
          have hw := fun (w5 : World) (c1 c2 : Nat) (b5 : Below wr.drew.heap.size wr.drew w5) r1 r2 (h1 : wr.heap.size ≤ c1) (h2 : wr.heap.size ≤ c2) => words_at (w5 := w5) (c1 := c1) (c2 := c2) (n := fn) (t := ft) (ns := pieceL 0 NL i fn) (ts := pieceL ⟨#[]⟩ s.S i ft) hB (below_d b5) r1 (pieceL_len ..).symm r2 (pieceL_len ..).symm h1 h2 HB2.out.2.2.2 (piece_I HNL.out.2.2.2.1 i fn) (by rw [pieceL_len]; have := HS.out.2.2.2.2.2.2; omega) (by rw [pieceL_len]; have := HS.out.2.2.2.2.2.2; omega) (by have h3 := piece_one s.S i ft (by have := HS.out.2.2.2.2.2.2; omega); have h4 := HS.out.2.2.2.2.1; omega) hll
          have HW := Hid.mk hw
          have hsn : (List.range (i + 1)).flatMap (wordsF ⟨fk, fw, fn, ft, false⟩ s) = (List.range i).flatMap (wordsF ⟨fk, fw, fn, ft, false⟩ s) ++ (numsL (pieceL 0 NL i fn) ++ txtsL (pieceL ⟨#[]⟩ s.S i ft)) := by
            have e1 : wordsF ⟨fk, fw, fn, ft, false⟩ s i = numsL (pieceL 0 NL i fn) ++ txtsL (pieceL ⟨#[]⟩ s.S i ft) := by
              unfold wordsF
              rw [HNL.out.2.2.2.2]
            rw [List.range_succ, List.flatMap_append, List.flatMap_cons, List.flatMap_nil, List.append_nil, e1]
          have HSN := Hid.mk hsn
          clear hw hsn hll hpre HM hcl hB
          go_wp2_with fail
          refine wp_region_held_drew (S := fun w' => w'.cell? ⟨W.heap.size, 2, none⟩ = some (.int .i64 fn) ∧ w'.cell? ⟨W.heap.size, 3, none⟩ = some (.int .i64 ft) ∧ w'.cell? ⟨W.heap.size + 1, 2, none⟩ = some (.slice lb M cb)) (by kernel_rfl) ?_ (fun hHeld => ?_)
          · exact ⟨y0, y1, y2⟩
          refine wpAnyH_take (i := 0) (oi := { dst := some 37, op := Op.move (Operand.tmp 1), type := 43, pos := "shapes.go:120", after := #[], guard := none }) (v := ?vbf0) rfl (by kernel_rfl) (by kernel_rfl) (by kernel_rfl) (fun _ _ _ h => h) (Or.inl ⟨by rfl, ?hbf0⟩) (by assumption) ?rbf0
          case hbf0 => (intro w0 hSw; (try dsimp only at hSw); go_simp; first | done | (with_reducible rfl) | (rw [if_pos (by omega)]; try (with_reducible rfl)))
          simp only [Act.put, List.setIfInBounds_toArray, List.set_cons_zero, List.set_cons_succ]
          refine wpAnyH_take (i := 1) (oi := { dst := some 38, op := Op.move (Operand.tmp 6), type := 27, pos := "shapes.go:120", after := #[], guard := none }) (v := ?vbf1) rfl (by kernel_rfl) (by kernel_rfl) (by kernel_rfl) (fun _ _ _ h => h) (Or.inl ⟨by rfl, ?hbf1⟩) (by assumption) ?rbf1
          case hbf1 => (intro w0 hSw; (try dsimp only at hSw); go_simp; first | done | (with_reducible rfl) | (rw [if_pos (by omega)]; try (with_reducible rfl)))
          simp only [Act.put, List.setIfInBounds_toArray, List.set_cons_zero, List.set_cons_succ]
          refine wpAnyH_take (i := 2) (oi := { dst := some 39, op := Op.move (Operand.tmp 8), type := 3, pos := "shapes.go:120", after := #[], guard := none }) (v := ?vbf2) rfl (by kernel_rfl) (by kernel_rfl) (by kernel_rfl) (fun _ _ _ h => h) (Or.inl ⟨by rfl, ?hbf2⟩) (by assumption) ?rbf2
          case hbf2 => (intro w0 hSw; (try dsimp only at hSw); go_simp; first | done | (with_reducible rfl) | (rw [if_pos (by omega)]; try (with_reducible rfl)))
          simp only [Act.put, List.setIfInBounds_toArray, List.set_cons_zero, List.set_cons_succ]
          refine wpAnyH_take (i := 3) (oi := { dst := some 40, op := Op.fieldAddr 48 (Operand.tmp 3) 2, type := 0, pos := "shapes.go:120", after := #[], guard := none }) (v := ?vbf3) rfl (by kernel_rfl) (by kernel_rfl) (by kernel_rfl) (fun _ _ _ h => h) (Or.inl ⟨by rfl, ?hbf3⟩) (by assumption) ?rbf3
          case hbf3 => (intro w0 hSw; (try dsimp only at hSw); go_simp; first | done | (with_reducible rfl) | (rw [if_pos (by omega)]; try (with_reducible rfl)))
          simp only [Act.put, List.setIfInBounds_toArray, List.set_cons_zero, List.set_cons_succ]
          refine wpAnyH_take (i := 4) (oi := { dst := some 41, op := Op.load 3 (Operand.tmp 40), type := 3, pos := "shapes.go:120", after := #[{ on := 3, ground := Ground.data }], guard := none }) (v := ?vbf4) rfl (by kernel_rfl) (by kernel_rfl) (by kernel_rfl) (fun _ _ _ h => h) (Or.inl ⟨by rfl, ?hbf4⟩) (by assumption) ?rbf4
          case hbf4 => (intro w0 hSw; (try dsimp only at hSw); go_simp; first | done | (with_reducible rfl) | (rw [if_pos (by omega)]; try (with_reducible rfl)))
          simp only [Act.put, List.setIfInBounds_toArray, List.set_cons_zero, List.set_cons_succ]
          refine wpAnyH_take (i := 6) (oi := { dst := some 43, op := Op.fieldAddr 32 (Operand.tmp 5) 2, type := 0, pos := "shapes.go:120", after := #[], guard := none }) (v := ?vbf6) rfl (by kernel_rfl) (by kernel_rfl) (by kernel_rfl) (fun _ _ _ h => h) (Or.inl ⟨by rfl, ?hbf6⟩) (by assumption) ?rbf6
          case hbf6 => (intro w0 hSw; (try dsimp only at hSw); go_simp; first | done | (with_reducible rfl) | (rw [if_pos (by omega)]; try (with_reducible rfl)))
          simp only [Act.put, List.setIfInBounds_toArray, List.set_cons_zero, List.set_cons_succ]
          refine wpAnyH_take (i := 7) (oi := { dst := some 44, op := Op.load 28 (Operand.tmp 43), type := 28, pos := "shapes.go:120", after := #[{ on := 6, ground := Ground.data }], guard := none }) (v := ?vbf7) rfl (by kernel_rfl) (by kernel_rfl) (by kernel_rfl) (fun _ _ _ h => h) (Or.inl ⟨by rfl, ?hbf7⟩) (by assumption) ?rbf7
          case hbf7 => (intro w0 hSw; (try dsimp only at hSw); go_simp; first | done | (with_reducible rfl) | (rw [if_pos (by omega)]; try (with_reducible rfl)))
          simp only [Act.put, List.setIfInBounds_toArray, List.set_cons_zero, List.set_cons_succ]
          refine wpAnyH_take (i := 8) (oi := { dst := some 45, op := Op.move (Operand.tmp 8), type := 3, pos := "shapes.go:120", after := #[], guard := none }) (v := ?vbf8) rfl (by kernel_rfl) (by kernel_rfl) (by kernel_rfl) (fun _ _ _ h => h) (Or.inl ⟨by rfl, ?hbf8⟩) (by assumption) ?rbf8
          case hbf8 => (intro w0 hSw; (try dsimp only at hSw); go_simp; first | done | (with_reducible rfl) | (rw [if_pos (by omega)]; try (with_reducible rfl)))
          simp only [Act.put, List.setIfInBounds_toArray, List.set_cons_zero, List.set_cons_succ]
          refine wpAnyH_take (i := 9) (oi := { dst := some 46, op := Op.fieldAddr 48 (Operand.tmp 3) 3, type := 0, pos := "shapes.go:120", after := #[], guard := none }) (v := ?vbf9) rfl (by kernel_rfl) (by kernel_rfl) (by kernel_rfl) (fun _ _ _ h => h) (Or.inl ⟨by rfl, ?hbf9⟩) (by assumption) ?rbf9
          case hbf9 => (intro w0 hSw; (try dsimp only at hSw); go_simp; first | done | (with_reducible rfl) | (rw [if_pos (by omega)]; try (with_reducible rfl)))
          simp only [Act.put, List.setIfInBounds_toArray, List.set_cons_zero, List.set_cons_succ]
          refine wpAnyH_take (i := 10) (oi := { dst := some 47, op := Op.load 3 (Operand.tmp 46), type := 3, pos := "shapes.go:120", after := #[{ on := 9, ground := Ground.data }], guard := none }) (v := ?vbf10) rfl (by kernel_rfl) (by kernel_rfl) (by kernel_rfl) (fun _ _ _ h => h) (Or.inl ⟨by rfl, ?hbf10⟩) (by assumption) ?rbf10
          case hbf10 => (intro w0 hSw; (try dsimp only at hSw); go_simp; first | done | (with_reducible rfl) | (rw [if_pos (by omega)]; try (with_reducible rfl)))
          simp only [Act.put, List.setIfInBounds_toArray, List.set_cons_zero, List.set_cons_succ]
          refine wpAnyH_ready (rs := [5]) (by kernel_rfl) (by simp) ?_
          refine AllReadyH.cons rfl (fun K hK => ?_) AllReadyH.nil
          go_simp
          go_wp2_with (go_at_call 35; refine hp1.mono ?_; clear hp1; rintro r w4 ⟨c1, rfl, hr1, hc1, b4⟩)
          refine hK.out _ _ ?_ (fun hHeld => ?_)
          · exact ⟨cell_l b4 y0, cell_l b4 y1, cell_l b4 y2⟩
          clear hK K
          have hp2' := hp2 w4 b4
          clear hp2
          refine wpAnyH_ready (rs := [11]) (by kernel_rfl) (by simp) ?_
          refine AllReadyH.cons rfl (fun K hK => ?_) AllReadyH.nil
          go_simp
          go_wp2_with (go_at_call 36; refine hp2'.mono ?_; clear hp2'; rintro r w5 ⟨c2, rfl, hr2, hc2, b5⟩)
          have b45 := chain b4 b5 (Nat.le_refl _)
          refine hK.out _ _ ?_ (fun hHeld => ?_)
          · exact ⟨cell_l b45 y0, cell_l b45 y1, cell_l b45 y2⟩
          clear hK K
          have hww := HW.out w5 c1 c2 b45 (hr1.below b5) hr2 hc1 (Nat.le_trans b4.size hc2)
          refine wpAnyH_ready (rs := [12]) (by kernel_rfl) (by simp) ?_
          refine AllReadyH.cons rfl (fun K hK => ?_) AllReadyH.nil
          go_simp
          go_wp2_with (go_at_call 34; refine hww.mono ?_; clear hww; rintro r w6 ⟨rfl, p6, v6, h6⟩)
          have y3 := HC.out w6 h6.st
          refine hK.out _ _ ?_ (fun hHeld => ?_)
          · exact ⟨y3.2.2.1, y3.2.2.2.1, y3.2.2.2.2.2.2.1⟩
          clear hK K y3
          refine wpAnyH_done (by kernel_rfl) ?_ _
          have HN := Hid.mk (show ∃ p' v', BW W2 b v w6 p' v' (l ++ fw.data.toList ++ (List.range (i + 1)).flatMap (wordsF ⟨fk, fw, fn, ft, false⟩ s)) from ⟨p6, v6, by
            rw [HSN.out, ← List.append_assoc]; exact h6⟩)
          clear h6 hr1 hr2 b4 b5 b45 HW
          go_wp2
          exact ⟨⟨i + 1, rfl, hlt, HN⟩, by simp only [intOf]; omega⟩
        · have e : i = 1 := by omega
          subst e
          obtain ⟨p1, v1, hB⟩ := HM.out
          have hll : (l ++ fw.data.toList ++ (List.range 1).flatMap (wordsF ⟨fk, fw, fn, ft, false⟩ s)).length + 1 ≤ 140737488355328 := by
            have hpre := HS.out.2.2.1 1 (by rw [HS.out.2.1]; omega)
            rw [List.length_append, List.length_append]
            have e1 : fw.data.toList.length = fw.size := by simp
            have h0 := HS.out.2.2.2.1
            have h1 := HS.out.2.2.2.2.1
            have h2 := HS.out.2.2.2.2.2.1
            have h3 := HS.out.2.2.2.2.2.2
            omega
          have hwb : Calls Tryd.prog 37 #[Pt b, .int .u8 10] wr _ := wb_byte hB.bd 10 hll
          have HB := Hid.mk hB
          clear hll hB HM
          go_wp2_with fail
          refine hwb.mono ?_
          clear hwb
          rintro r w6 ⟨rfl, v6, h6⟩
          have HFin := Hid.mk (show ∃ p' v', BW W b v w6 p' v' (l ++ lineF ⟨fk, fw, fn, ft, false⟩ s) from ⟨_, _, by
            have h7 := (HB.out.trans h6).pre HB2.out.1
            unfold lineF
            rw [HS.out.2.1]
            simp only [List.append_assoc] at h7 ⊢
            exact h7⟩)
          clear h6 HB
          go_wp2
          go_end0
          exact ⟨rfl, HFin.out⟩
    | true =>
      have HS := Hid.mk (And.intro HS0.out.1 (And.intro (show timesF ⟨fk, fw, fn, ft, true⟩ s = M from Eq.trans rfl HS0.out.1.symm) (And.intro HS0.out.2.2.1 (And.intro hm (And.intro HS0.out.2.2.2.2.1 (And.intro HS0.out.2.2.2.2.2.1 (show fw.size ≤ 7 ∧ fn ≤ 3 ∧ ft ≤ 1 from HS0.out.2.2.2.2.2.2.2.2)))))))
      clear HS0
      have hws := wb_str (HB2.out.2.1.below HB2.out.1) fw (by have := HS.out.2.2.2.2.2.2; have := HS.out.2.2.2.2.2.1; omega)
      go_enter Tryd.func19, Tryd.ntmps19
      go_wp2_with fail
      rw [← HW1.out]
      refine hws.mono ?_
      clear hws
      rintro r w3 ⟨rfl, v3, h3⟩
      have HI0 := Hid.mk (show ∃ p' v', BW W2 b v w3 p' v' (l ++ fw.data.toList ++ (List.range 0).flatMap (wordsF ⟨fk, fw, fn, ft, true⟩ s)) from ⟨_, _, by simpa using h3⟩)
      clear h3
      go_wp2
      go_loopw [34] (fun u wr => ∃ i : Nat, u = .int .i64 i ∧ i ≤ M ∧ Hid (∃ p' v', BW W2 b v wr p' v' (l ++ fw.data.toList ++ (List.range i).flatMap (wordsF ⟨fk, fw, fn, ft, true⟩ s)))) (fun u _ => M - (intOf u).toNat)
      case atStart => exact ⟨0, rfl, Nat.zero_le _, HI0⟩
      case round =>
        clear HI0
        obtain ⟨i, rfl, hi, HM⟩ := hrel
        by_cases hlt : i < M
        · have i1 : (i : Int) < (M : Int) := by omega
          have i2 : (0 : Int) ≤ (i : Int) := by omega
          obtain ⟨p1, v1, hB⟩ := HM.out
          have hcl := HC.out wr hB.st
          have y0 := hcl.2.2.1
          have y1 := hcl.2.2.2.1
          have y2 := hcl.2.2.2.2.2.2.1
          have hM20 := HS.out.2.2.2.1
          have hp1 := piece_int (cp := ca) NL i fn (HNL.out.1 wr.drew hB.st.drew) HNL.out.2.1 (by omega) (by have := HS.out.2.2.2.2.2.2; omega)
          rw [← HNL.out.2.2.1] at hp1
          have hp2 := fun (w4 : World) (b4 : Below wr.drew.heap.size wr.drew w4) => (show Calls Tryd.prog 36 #[.slice lb M cb, .int .i64 i, .int .i64 ft] w4 (fun e w' => ∃ b, e = .returned (.slice (some ⟨b, 0, none⟩) ft ft) ∧ ES.Row w' (.slice (some ⟨b, 0, none⟩) ft ft) (pieceL ⟨#[]⟩ s.S i ft) ∧ w4.heap.size ≤ b ∧ Below w4.heap.size w4 w') from by
            have hMs := HS.out.1
            subst hMs
            exact piece_str (cp := cb) s.S i ft (HB2.out.2.2.1 w4 (hB.st.drew.trans (.below b4))) (by omega) (by omega) (by have := HS.out.2.2.2.2.2.2; omega))
          have hpre := HS.out.2.2.1 i (by rw [HS.out.2.1]; omega)
          have hll : (l ++ fw.data.toList ++ (List.range i).flatMap (wordsF ⟨fk, fw, fn, ft, true⟩ s)).length ≤ 70368744177664 := by
            rw [List.length_append, List.length_append]
            have e1 : fw.data.toList.length = fw.size := by simp
            have h1 := HS.out.2.2.2.2.1
            have h2 := HS.out.2.2.2.2.2.1
            have h3 := HS.out.2.2.2.2.2.2
            omega
          have hw := fun (w5 : World) (c1 c2 : Nat) (b5 : Below wr.drew.heap.size wr.drew w5) r1 r2 (h1 : wr.heap.size ≤ c1) (h2 : wr.heap.size ≤ c2) => words_at (w5 := w5) (c1 := c1) (c2 := c2) (n := fn) (t := ft) (ns := pieceL 0 NL i fn) (ts := pieceL ⟨#[]⟩ s.S i ft) hB (below_d b5) r1 (pieceL_len ..).symm r2 (pieceL_len ..).symm h1 h2 HB2.out.2.2.2 (piece_I HNL.out.2.2.2.1 i fn) (by rw [pieceL_len]; have := HS.out.2.2.2.2.2.2; omega) (by rw [pieceL_len]; have := HS.out.2.2.2.2.2.2; omega) (by have h3 := piece_one s.S i ft (by have := HS.out.2.2.2.2.2.2; omega); have h4 := HS.out.2.2.2.2.1; omega) hll
          have HW := Hid.mk hw
          have hsn : (List.range (i + 1)).flatMap (wordsF ⟨fk, fw, fn, ft, true⟩ s) = (List.range i).flatMap (wordsF ⟨fk, fw, fn, ft, true⟩ s) ++ (numsL (pieceL 0 NL i fn) ++ txtsL (pieceL ⟨#[]⟩ s.S i ft)) := by
            have e1 : wordsF ⟨fk, fw, fn, ft, true⟩ s i = numsL (pieceL 0 NL i fn) ++ txtsL (pieceL ⟨#[]⟩ s.S i ft) := by
              unfold wordsF
              rw [HNL.out.2.2.2.2]
            rw [List.range_succ, List.flatMap_append, List.flatMap_cons, List.flatMap_nil, List.append_nil, e1]
          have HSN := Hid.mk hsn
          clear hw hsn hll hpre HM hcl hB
          go_wp2_with fail
          refine wp_region_held_drew (S := fun w' => w'.cell? ⟨W.heap.size, 2, none⟩ = some (.int .i64 fn) ∧ w'.cell? ⟨W.heap.size, 3, none⟩ = some (.int .i64 ft) ∧ w'.cell? ⟨W.heap.size + 1, 2, none⟩ = some (.slice lb M cb)) (by kernel_rfl) ?_ (fun hHeld => ?_)
          · exact ⟨y0, y1, y2⟩
          refine wpAnyH_take (i := 0) (oi := { dst := some 37, op := Op.move (Operand.tmp 1), type := 43, pos := "shapes.go:120", after := #[], guard := none }) (v := ?vbt0) rfl (by kernel_rfl) (by kernel_rfl) (by kernel_rfl) (fun _ _ _ h => h) (Or.inl ⟨by rfl, ?hbt0⟩) (by assumption) ?rbt0
          case hbt0 => (intro w0 hSw; (try dsimp only at hSw); go_simp; first | done | (with_reducible rfl) | (rw [if_pos (by omega)]; try (with_reducible rfl)))
          simp only [Act.put, List.setIfInBounds_toArray, List.set_cons_zero, List.set_cons_succ]
          refine wpAnyH_take (i := 1) (oi := { dst := some 38, op := Op.move (Operand.tmp 6), type := 27, pos := "shapes.go:120", after := #[], guard := none }) (v := ?vbt1) rfl (by kernel_rfl) (by kernel_rfl) (by kernel_rfl) (fun _ _ _ h => h) (Or.inl ⟨by rfl, ?hbt1⟩) (by assumption) ?rbt1
          case hbt1 => (intro w0 hSw; (try dsimp only at hSw); go_simp; first | done | (with_reducible rfl) | (rw [if_pos (by omega)]; try (with_reducible rfl)))
          simp only [Act.put, List.setIfInBounds_toArray, List.set_cons_zero, List.set_cons_succ]
          refine wpAnyH_take (i := 2) (oi := { dst := some 39, op := Op.move (Operand.tmp 8), type := 3, pos := "shapes.go:120", after := #[], guard := none }) (v := ?vbt2) rfl (by kernel_rfl) (by kernel_rfl) (by kernel_rfl) (fun _ _ _ h => h) (Or.inl ⟨by rfl, ?hbt2⟩) (by assumption) ?rbt2
          case hbt2 => (intro w0 hSw; (try dsimp only at hSw); go_simp; first | done | (with_reducible rfl) | (rw [if_pos (by omega)]; try (with_reducible rfl)))
          simp only [Act.put, List.setIfInBounds_toArray, List.set_cons_zero, List.set_cons_succ]
          refine wpAnyH_take (i := 3) (oi := { dst := some 40, op := Op.fieldAddr 48 (Operand.tmp 3) 2, type := 0, pos := "shapes.go:120", after := #[], guard := none }) (v := ?vbt3) rfl (by kernel_rfl) (by kernel_rfl) (by kernel_rfl) (fun _ _ _ h => h) (Or.inl ⟨by rfl, ?hbt3⟩) (by assumption) ?rbt3
          case hbt3 => (intro w0 hSw; (try dsimp only at hSw); go_simp; first | done | (with_reducible rfl) | (rw [if_pos (by omega)]; try (with_reducible rfl)))
          simp only [Act.put, List.setIfInBounds_toArray, List.set_cons_zero, List.set_cons_succ]
          refine wpAnyH_take (i := 4) (oi := { dst := some 41, op := Op.load 3 (Operand.tmp 40), type := 3, pos := "shapes.go:120", after := #[{ on := 3, ground := Ground.data }], guard := none }) (v := ?vbt4) rfl (by kernel_rfl) (by kernel_rfl) (by kernel_rfl) (fun _ _ _ h => h) (Or.inl ⟨by rfl, ?hbt4⟩) (by assumption) ?rbt4
          case hbt4 => (intro w0 hSw; (try dsimp only at hSw); go_simp; first | done | (with_reducible rfl) | (rw [if_pos (by omega)]; try (with_reducible rfl)))
          simp only [Act.put, List.setIfInBounds_toArray, List.set_cons_zero, List.set_cons_succ]
          refine wpAnyH_take (i := 6) (oi := { dst := some 43, op := Op.fieldAddr 32 (Operand.tmp 5) 2, type := 0, pos := "shapes.go:120", after := #[], guard := none }) (v := ?vbt6) rfl (by kernel_rfl) (by kernel_rfl) (by kernel_rfl) (fun _ _ _ h => h) (Or.inl ⟨by rfl, ?hbt6⟩) (by assumption) ?rbt6
          case hbt6 => (intro w0 hSw; (try dsimp only at hSw); go_simp; first | done | (with_reducible rfl) | (rw [if_pos (by omega)]; try (with_reducible rfl)))
          simp only [Act.put, List.setIfInBounds_toArray, List.set_cons_zero, List.set_cons_succ]
          refine wpAnyH_take (i := 7) (oi := { dst := some 44, op := Op.load 28 (Operand.tmp 43), type := 28, pos := "shapes.go:120", after := #[{ on := 6, ground := Ground.data }], guard := none }) (v := ?vbt7) rfl (by kernel_rfl) (by kernel_rfl) (by kernel_rfl) (fun _ _ _ h => h) (Or.inl ⟨by rfl, ?hbt7⟩) (by assumption) ?rbt7
          case hbt7 => (intro w0 hSw; (try dsimp only at hSw); go_simp; first | done | (with_reducible rfl) | (rw [if_pos (by omega)]; try (with_reducible rfl)))
          simp only [Act.put, List.setIfInBounds_toArray, List.set_cons_zero, List.set_cons_succ]
          refine wpAnyH_take (i := 8) (oi := { dst := some 45, op := Op.move (Operand.tmp 8), type := 3, pos := "shapes.go:120", after := #[], guard := none }) (v := ?vbt8) rfl (by kernel_rfl) (by kernel_rfl) (by kernel_rfl) (fun _ _ _ h => h) (Or.inl ⟨by rfl, ?hbt8⟩) (by assumption) ?rbt8
          case hbt8 => (intro w0 hSw; (try dsimp only at hSw); go_simp; first | done | (with_reducible rfl) | (rw [if_pos (by omega)]; try (with_reducible rfl)))
          simp only [Act.put, List.setIfInBounds_toArray, List.set_cons_zero, List.set_cons_succ]
          refine wpAnyH_take (i := 9) (oi := { dst := some 46, op := Op.fieldAddr 48 (Operand.tmp 3) 3, type := 0, pos := "shapes.go:120", after := #[], guard := none }) (v := ?vbt9) rfl (by kernel_rfl) (by kernel_rfl) (by kernel_rfl) (fun _ _ _ h => h) (Or.inl ⟨by rfl, ?hbt9⟩) (by assumption) ?rbt9
          case hbt9 => (intro w0 hSw; (try dsimp only at hSw); go_simp; first | done | (with_reducible rfl) | (rw [if_pos (by omega)]; try (with_reducible rfl)))
          simp only [Act.put, List.setIfInBounds_toArray, List.set_cons_zero, List.set_cons_succ]
          refine wpAnyH_take (i := 10) (oi := { dst := some 47, op := Op.load 3 (Operand.tmp 46), type := 3, pos := "shapes.go:120", after := #[{ on := 9, ground := Ground.data }], guard := none }) (v := ?vbt10) rfl (by kernel_rfl) (by kernel_rfl) (by kernel_rfl) (fun _ _ _ h => h) (Or.inl ⟨by rfl, ?hbt10⟩) (by assumption) ?rbt10
          case hbt10 => (intro w0 hSw; (try dsimp only at hSw); go_simp; first | done | (with_reducible rfl) | (rw [if_pos (by omega)]; try (with_reducible rfl)))
          simp only [Act.put, List.setIfInBounds_toArray, List.set_cons_zero, List.set_cons_succ]
          refine wpAnyH_ready (rs := [5]) (by kernel_rfl) (by simp) ?_
          refine AllReadyH.cons rfl (fun K hK => ?_) AllReadyH.nil
          go_simp
          go_wp2_with (go_at_call 35; refine hp1.mono ?_; clear hp1; rintro r w4 ⟨c1, rfl, hr1, hc1, b4⟩)
          refine hK.out _ _ ?_ (fun hHeld => ?_)
          · exact ⟨cell_l b4 y0, cell_l b4 y1, cell_l b4 y2⟩
          clear hK K
          have hp2' := hp2 w4 b4
          clear hp2
          refine wpAnyH_ready (rs := [11]) (by kernel_rfl) (by simp) ?_
          refine AllReadyH.cons rfl (fun K hK => ?_) AllReadyH.nil
          go_simp
          go_wp2_with (go_at_call 36; refine hp2'.mono ?_; clear hp2'; rintro r w5 ⟨c2, rfl, hr2, hc2, b5⟩)
          have b45 := chain b4 b5 (Nat.le_refl _)
          refine hK.out _ _ ?_ (fun hHeld => ?_)
          · exact ⟨cell_l b45 y0, cell_l b45 y1, cell_l b45 y2⟩
          clear hK K
          have hww := HW.out w5 c1 c2 b45 (hr1.below b5) hr2 hc1 (Nat.le_trans b4.size hc2)
          refine wpAnyH_ready (rs := [12]) (by kernel_rfl) (by simp) ?_
          refine AllReadyH.cons rfl (fun K hK => ?_) AllReadyH.nil
          go_simp
          go_wp2_with (go_at_call 34; refine hww.mono ?_; clear hww; rintro r w6 ⟨rfl, p6, v6, h6⟩)
          have y3 := HC.out w6 h6.st
          refine hK.out _ _ ?_ (fun hHeld => ?_)
          · exact ⟨y3.2.2.1, y3.2.2.2.1, y3.2.2.2.2.2.2.1⟩
          clear hK K y3
          refine wpAnyH_done (by kernel_rfl) ?_ _
          have HN := Hid.mk (show ∃ p' v', BW W2 b v w6 p' v' (l ++ fw.data.toList ++ (List.range (i + 1)).flatMap (wordsF ⟨fk, fw, fn, ft, true⟩ s)) from ⟨p6, v6, by
            rw [HSN.out, ← List.append_assoc]; exact h6⟩)
          clear h6 hr1 hr2 b4 b5 b45 HW
          go_wp2
          exact ⟨⟨i + 1, rfl, hlt, HN⟩, by simp only [intOf]; omega⟩
        · have e : i = M := by omega
          subst e
          obtain ⟨p1, v1, hB⟩ := HM.out
          have hll : (l ++ fw.data.toList ++ (List.range i).flatMap (wordsF ⟨fk, fw, fn, ft, true⟩ s)).length + 1 ≤ 140737488355328 := by
            have hpre := HS.out.2.2.1 i (by rw [HS.out.2.1]; omega)
            rw [List.length_append, List.length_append]
            have e1 : fw.data.toList.length = fw.size := by simp
            have h0 := HS.out.2.2.2.1
            have h1 := HS.out.2.2.2.2.1
            have h2 := HS.out.2.2.2.2.2.1
            have h3 := HS.out.2.2.2.2.2.2
            omega
          have hwb : Calls Tryd.prog 37 #[Pt b, .int .u8 10] wr _ := wb_byte hB.bd 10 hll
          have HB := Hid.mk hB
          clear hll hB HM
          go_wp2_with fail
          refine hwb.mono ?_
          clear hwb
          rintro r w6 ⟨rfl, v6, h6⟩
          have HFin := Hid.mk (show ∃ p' v', BW W b v w6 p' v' (l ++ lineF ⟨fk, fw, fn, ft, true⟩ s) from ⟨_, _, by
            have h7 := (HB.out.trans h6).pre HB2.out.1
            unfold lineF
            rw [HS.out.2.1]
            simp only [List.append_assoc] at h7 ⊢
            exact h7⟩)
          clear h6 HB
          go_wp2
          go_end0
          exact ⟨rfl, HFin.out⟩
end Go.Proofs.YtojnlngpgbcimaaDoor
