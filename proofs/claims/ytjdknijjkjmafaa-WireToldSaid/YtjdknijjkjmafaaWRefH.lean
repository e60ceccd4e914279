/-
  DERIVED. The document's own reading of hits.
-/
import Derived.Test.YtjdknijjkjmafaaWRefB
import Derived.Test.YtjdknijjkjmafaaWTold
import Derived.Test.YtjdknijjkjmafaaWRefT
import Derived.Deep.RegionHeld
import Derived.BigQuiet
import Derived.Deep.Cut
set_option linter.unusedVariables false
set_option linter.unusedSimpArgs false
namespace Go.Proofs.Ytjdknijjkjmafaa
open Go.RowKit Go.Proofs.SealMath
theorem below_d {w w' : World} (b : Below w.drew.heap.size w.drew w') : Below w.heap.size w w' := ⟨b.os, b.tape, b.output, b.size, b.block⟩
theorem RRd.to {w : World} {r : Nat} {b : ByteArray} {s s' : RS} (h : RRd w r b s) (h1 : s.2 = s'.2) (h2 : s.2 = 0 → s.1 = s'.1) : RRd w r b s' := by
  obtain ⟨p, k1, k2, k3⟩ := h
  exact ⟨p, by rw [← h1]; exact k1, k2, fun e => by rw [k3 (by rw [h1]; exact e)]; exact h2 (by rw [h1]; exact e)⟩
/-- What stands while the document reads hits. -/
structure DI (w wr : World) (r n : Nat) (b : ByteArray) (s0 : RS) (i : Nat) (v : Value) (acc : List Ht) (s : RS) : Prop where
  rd : RRd wr r b s
  row : HRow wr v acc
  own : ∀ k, v.ownBlock = some k → w.heap.size ≤ k
  st : Stay (· = r) w wr
  lr : r < w.heap.size
  len : acc.length ≤ i
  big : i ≤ 65536
  go : s.2 = 0 → acc.length = i ∧ rdL b (n - i) acc s = rdHs b s0 ∧ i ≤ n ∧ n ≤ 65536
  no : s.2 ≠ 0 → (rdHs b s0).2.2 = s.2
/-- What it comes to. -/
def DHO (w w' : World) (r : Nat) (b : ByteArray) (S : List Ht × RS) (v : Value) : Prop :=
  RRd w' r b S.2 ∧ (S.2.2 = 0 → HRow w' v S.1) ∧ (∃ a n c, v = .slice a n c) ∧ (∀ k, v.ownBlock = some k → w.heap.size ≤ k ∧ k < w'.heap.size) ∧ Stay (· = r) w w'
theorem DI.fin {w wr : World} {r n : Nat} {b : ByteArray} {s0 : RS} {i : Nat} {v : Value} {acc : List Ht} {s : RS} (h : DI w wr r n b s0 i v acc s) (hf : s.2 = 0 → ¬ i < n) : DHO w wr r b (rdHs b s0) v := by
  obtain ⟨a, c, e, -⟩ := slice_form h.row
  by_cases h0 : s.2 = 0
  · obtain ⟨k1, k2, k3, k4⟩ := h.go h0
    have hz : n - i = 0 := by have := hf h0; omega
    rw [hz] at k2
    have k5 : rdHs b s0 = (acc, s) := k2.symm
    rw [k5]
    exact ⟨h.rd, fun _ => h.row, ⟨a, _, c, e⟩, fun k hk => ⟨h.own k hk, row_lt h.row hk⟩, h.st⟩
  · have k1 := h.no h0
    exact ⟨h.rd.to k1.symm (fun e => absurd e h0), fun e => absurd (k1.symm.trans e) h0, ⟨a, _, c, e⟩, fun k hk => ⟨h.own k hk, row_lt h.row hk⟩, h.st⟩
theorem DI.start {w w1 : World} {r : Nat} {b : ByteArray} {s0 : RS} (h : RRd w1 r b (rdN b s0).2) (st : Stay (· = r) w w1) (lr : r < w.heap.size) (hn : (rdN b s0).1 ≤ 65536) : DI w w1 r (rdN b s0).1 b s0 0 (.slice none 0 0) [] (rdN b s0).2 := by
  have e : rdU 65536 43 b s0 = rdN b s0 := by unfold rdU; rw [if_neg (by omega)]
  refine ⟨h, ⟨by simp, .inl ⟨rfl, rfl⟩⟩, (fun k hk => by cases hk), st, lr, by simp, by omega, fun h0 => ⟨rfl, by unfold rdHs; rw [e]; rfl, Nat.zero_le _, hn⟩, fun h0 => ?_⟩
  unfold rdHs
  rw [e, rdN_zero h0]
  rfl
theorem DI.many {w w1 : World} {r : Nat} {b : ByteArray} {s0 : RS} {p : Nat} (h : RRd w1 r b (p, 43)) (st : Stay (· = r) w w1) (lr : r < w.heap.size) (hn : 65536 < (rdN b s0).1) : DI w w1 r (rdN b s0).1 b s0 0 (.slice none 0 0) [] (p, 43) := by
  have e : rdU 65536 43 b s0 = (0, ((rdN b s0).2.1, 43)) := by unfold rdU; rw [if_pos hn]
  refine ⟨h, ⟨by simp, .inl ⟨rfl, rfl⟩⟩, (fun k hk => by cases hk), st, lr, by simp, by omega, (fun h0 => by cases h0), fun h0 => ?_⟩
  unfold rdHs
  rw [e]
  rfl
/-- The next hit is put behind. -/
theorem DI.put {w wr w' : World} {r n : Nat} {b : ByteArray} {s0 : RS} {i : Nat} {v v' : Value} {acc : List Ht} {s s' : RS} (h : DI w wr r n b s0 i v acc s) (h0 : s.2 = 0) (hi : i < n) (rd : RRd w' r b s') (row : HRow w' v' (acc ++ [(rdI b s).1])) (own : ∀ k, v'.ownBlock = some k → w.heap.size ≤ k) (st : Stay (· = r) w w')
    (hs : s' = if (rdI b s).2.2 ≠ 0 then (rdI b s).2 else if okP acc.getLast? (rdI b s).1 then (rdI b s).2 else ((rdI b s).2.1, 50)) : DI w w' r n b s0 (i + 1) v' (acc ++ [(rdI b s).1]) s' := by
  obtain ⟨k1, k2, k3, k4⟩ := h.go h0
  obtain ⟨m, hm⟩ : ∃ m, n - i = m + 1 := ⟨n - i - 1, by omega⟩
  rw [hm, rdL_cons] at k2
  have hm' : n - (i + 1) = m := by omega
  refine ⟨rd, row, own, st, h.lr, by simp; omega, by omega, fun e0 => ⟨by simp; omega, ?_, by omega, k4⟩, fun e0 => ?_⟩
  · rw [hm']
    by_cases c1 : (rdI b s).2.2 ≠ 0
    · rw [if_pos c1] at hs; rw [hs] at e0; exact absurd e0 c1
    · rw [if_neg c1] at hs k2
      by_cases c2 : okP acc.getLast? (rdI b s).1 = true
      · rw [if_pos c2] at hs k2; rw [hs]; exact k2
      · rw [if_neg c2] at hs; rw [hs] at e0; cases e0
  · by_cases c1 : (rdI b s).2.2 ≠ 0
    · rw [if_pos c1] at hs k2; rw [hs, ← k2]
    · rw [if_neg c1] at hs k2
      by_cases c2 : okP acc.getLast? (rdI b s).1 = true
      · rw [if_pos c2] at hs; rw [hs] at e0; exact absurd (Decidable.not_not.1 c1) e0
      · rw [if_neg c2] at hs k2; rw [hs, ← k2]
set_option maxHeartbeats 8000000 in
set_option maxRecDepth 100000 in
theorem dhits_any (b : ByteArray) (s0 : RS) (w : World) (r : Nat) (hb : b.size < 4611686018427387904) (h : RRd w r b s0) :
    Calls Try.prog 32 #[Pt r] w fun e w' => ∃ v, e = .returned v ∧ DHO w w' r b (rdHs b s0) v := by
  have hA := rany_any b s0 w r hb h
  have HB := Hid.mk (And.intro hb h.lt)
  clear h hb
  go_enter Try.func32, Try.ntmps32
  go_upto_region 3 with (go_at_call 31; refine hA.mono ?_; clear hA; rintro e w1 ⟨rfl, rd1, st1⟩)
  obtain ⟨n, hn⟩ : ∃ n, n = (rdN b s0).1 := ⟨_, rfl⟩
  rw [← hn]
  have HN := Hid.mk hn
  by_cases hbig : 65536 < n
  · have hbig' : (65536 : Int) < (n : Int) := by omega
    obtain ⟨p1, hc1, hpb1, -⟩ := rd1
    have hR := rrefuse_any b p1 (rdN b s0).2.2 43 w1 r hc1
    have hz : (rdN b s0).2.2 = 0 := by
      by_cases q : (rdN b s0).2.2 = 0
      · exact q
      · have := rdN_zero q; omega
    rw [if_pos hz] at hR
    have HS1 := Hid.mk st1
    clear st1 hc1 hz hbig hn
    go_upto_region 5 with (go_at_call 51; refine hR.mono ?_; clear hR; rintro e w2 ⟨rfl, hc2, st2⟩)
    have H0 : Hid (DI w w2 r n b s0 0 (.slice none 0 0) [] (p1, 43)) := Hid.mk (by
      have hn := HN.out
      subst hn
      exact DI.many ⟨p1, hc2, hpb1, fun e => by cases e⟩ (HS1.out.andThen st2 (fun _ _ e => e)) HB.out.2 (by omega))
    clear hc2 st2 HS1
    go_wp2
    go_loopw [3, 5, 6] (fun o u q wr => ∃ (v : Value) (i : Nat) (acc : List Ht) (s : RS), o = v ∧ u = .int .i64 i ∧ Hid (DI w wr r n b s0 i v acc s)) (fun _ u _ _ => n - (intOf u).toNat)
    case atStart => exact ⟨_, 0, _, _, rfl, rfl, H0⟩
    case round =>
      obtain ⟨v, i, acc, s, hvo, rfl, HI⟩ := hrel
      replace hvo := hvo.symm
      subst hvo
      clear H0
      obtain ⟨p, hcr, hpb, hps⟩ := HI.out.rd
      have c2 : wr.cell? ⟨r, 2, none⟩ = some (.int .i64 s.2) := hcr.cell rfl
      have hi5 := HI.out.big
      by_cases hlt : i < n
      · have hlt' : (i : Int) < (n : Int) := by omega
        by_cases h0 : s.2 = 0
        · rw [h0] at c2
          have hA1 := rany_any b s wr r HB.out.1 HI.out.rd
          clear hcr hps hpb
          go_upto_region 9 with (go_at_call 31; refine hA1.mono ?_; clear hA1; rintro e x1 ⟨rfl, rd1, st1⟩)
          obtain ⟨d1, hd1⟩ : ∃ d1, d1 = (rdN b s).1 := ⟨_, rfl⟩
          obtain ⟨s1, hs1⟩ : ∃ s1, s1 = (rdN b s).2 := ⟨_, rfl⟩
          rw [← hd1]
          rw [← hs1] at rd1
          obtain ⟨xB, hxB⟩ : ∃ xB, xB = x1.alloc (.cells #[.int .i64 d1, .int .i64 0, .string ⟨#[]⟩] 25) := ⟨_, rfl⟩
          rw [← hxB]
          have bB : Below x1.heap.size x1 xB := by rw [hxB]; exact (Below.refl _ x1).alloc (Nat.le_refl _) _
          have bxB : HC xB x1.heap.size #[.int .i64 d1, .int .i64 0, .string ⟨#[]⟩] 25 := by rw [hxB]; exact HC.new x1 _ _
          have hrB : r < x1.heap.size := Nat.lt_of_lt_of_le HI.out.lr (Nat.le_trans HI.out.st.size st1.size)
          have hvB : ∀ k, v.ownBlock = some k → k < x1.heap.size ∧ k ≠ r := fun k hk => ⟨Nat.lt_of_lt_of_le (row_lt HI.out.row hk) st1.size, by have := HI.out.own k hk; have := HI.out.lr; omega⟩
          have rowB : HRow xB v acc := (HI.out.row.stay st1 (fun k hk e => (hvB k hk).2 e)).stay (F := fun _ => False) (.below bB) (fun _ _ h => h)
          have stB : Stay (· = r) w xB := (HI.out.st.andThen st1 (fun _ _ e => e)).andThen (.below bB) (fun _ _ e => e)
          obtain ⟨B, hBB⟩ : ∃ B, B = x1.heap.size := ⟨_, rfl⟩
          have hwB : w.heap.size ≤ B := by rw [hBB]; exact Nat.le_trans HI.out.st.size st1.size
          rw [← hBB] at bxB hrB hvB ⊢
          have hA2 := rany_any b s1 xB r HB.out.1 (rd1.below bB)
          have H1 := Hid.mk (And.intro bxB (And.intro rowB (And.intro stB (And.intro hvB (And.intro hwB (And.intro hd1 hs1))))))
          clear hxB bB rd1 st1 bxB hvB rowB stB hBB hwB hd1 hs1 c2
          go_upto_region 10 with (go_at_call 31; refine hA2.mono ?_; clear hA2; rintro e x2 ⟨rfl, rd2, st2⟩; have bx2 := HC.stay H1.out.1 st2 (by omega); have y1 : x2.cell? ⟨B, 1, none⟩ = some (.int .i64 0) := HC.cell bx2 rfl; have z1 := HC.free bx2 1)
          obtain ⟨d2, hd2⟩ : ∃ d2, d2 = (rdN b s1).1 := ⟨_, rfl⟩
          obtain ⟨s2, hs2⟩ : ∃ s2, s2 = (rdN b s1).2 := ⟨_, rfl⟩
          rw [← hd2]
          rw [← hs2] at rd2
          obtain ⟨xC, hxC⟩ : ∃ xC, xC = x2.setCell ⟨B, 1, none⟩ (.int .i64 d2) := ⟨_, rfl⟩
          rw [← hxC]
          have sC : Stay (· = B) x2 xC := by rw [hxC]; exact Stay.setCell (F := (· = B)) (p := ⟨B, 1, none⟩) (Stay.refl _ x2) (fun _ => rfl) _
          have bxC : HC xC B #[.int .i64 d1, .int .i64 d2, .string ⟨#[]⟩] 25 := by rw [hxC]; exact HC.set bx2 1 _
          have hA3 := rrtext_any b s2 xC r HB.out.1 (rd2.stay sC (by omega))
          have H2 : Hid (HRow xC v acc ∧ Stay (· = r) w xC) := by
            obtain ⟨-, k2, k3, k4, k5, -⟩ := H1.out
            exact ⟨(k2.stay st2 (fun k hk e => (k4 k hk).2 e)).stay sC (fun k hk e => by have := (k4 k hk).1; omega), (k3.andThen st2 (fun _ _ e => e)).andThen sC (fun i hi e => by omega)⟩
          have HC2 := Hid.mk (And.intro bxC (And.intro hd2 hs2))
          clear hxC sC bxC bx2 rd2 st2 y1 z1 hd2 hs2
          go_upto_region 11 with (go_at_call 30; refine hA3.mono ?_; clear hA3; rintro e x3 ⟨rfl, rd3, st3⟩; have bx3 := HC.stay HC2.out.1 st3 (by omega); have y2 : x3.cell? ⟨B, 2, none⟩ = some (.string ⟨#[]⟩) := HC.cell bx3 rfl; have z2 := HC.free bx3 2)
          obtain ⟨l3, hl3⟩ : ∃ l3, l3 = (rdT b s2).1 := ⟨_, rfl⟩
          obtain ⟨s3, hs3⟩ : ∃ s3, s3 = (rdT b s2).2 := ⟨_, rfl⟩
          rw [← hl3]
          rw [← hs3] at rd3
          obtain ⟨ct, hct⟩ : ∃ ct : ByteArray, ct = ⟨l3.toArray⟩ := ⟨_, rfl⟩
          have HR : Hid (rdI b s = (⟨d1, d2, ct⟩, s3)) := Hid.mk (by
            obtain ⟨-, -, -, -, -, k1, k2⟩ := H1.out
            obtain ⟨-, k3, k4⟩ := HC2.out
            unfold rdI
            rw [← k1, ← k2, ← k3, ← k4, ← hl3, ← hs3, ← hct])
          rw [← hct]
          obtain ⟨xD, hxD⟩ : ∃ xD, xD = x3.setCell ⟨B, 2, none⟩ (.string ct) := ⟨_, rfl⟩
          rw [← hxD]
          have sD : Stay (· = B) x3 xD := by rw [hxD]; exact Stay.setCell (F := (· = B)) (p := ⟨B, 2, none⟩) (Stay.refl _ x3) (fun _ => rfl) _
          have bxD : HC xD B #[.int .i64 d1, .int .i64 d2, .string ct] 25 := by rw [hxD]; exact HC.set bx3 2 _
          have H3 : Hid (HRow xD v acc ∧ Stay (· = r) w xD ∧ RRd xD r b s3 ∧ HC xD B #[.int .i64 d1, .int .i64 d2, .string ct] 25) := by
            obtain ⟨-, -, -, k4, k5, -⟩ := H1.out
            obtain ⟨k2, k3⟩ := H2.out
            exact ⟨(k2.stay st3 (fun k hk e => (k4 k hk).2 e)).stay sD (fun k hk e => by have := (k4 k hk).1; omega), (k3.andThen st3 (fun _ _ e => e)).andThen sD (fun i hi e => by omega), rd3.stay sD (by omega), bxD⟩
          clear hxD sD bxD bx3 rd3 st3 y2 z2 hl3 hs3 hct H2 HC2
          have wi : IntKind.i64.wrap ((i : Int) + 1) = ((i + 1 : Nat) : Int) := i64_in _ (by omega) (by omega)
          have hacc : (acc.length + 1) * 32 ≤ 140737488355328 := by have := HI.out.len; omega
          have HAC := Hid.mk hacc
          clear hacc
          obtain ⟨p3, hc3, -, -⟩ := H3.out.2.2.1
          have c3 : xD.cell? ⟨r, 2, none⟩ = some (.int .i64 s3.2) := HC.cell hc3 rfl
          clear hc3
          by_cases e3 : s3.2 = 0
          · rw [e3] at c3
            by_cases hi0 : i = 0
            · have HP : Hid (s3 = if (rdI b s).2.2 ≠ 0 then (rdI b s).2 else if okP acc.getLast? (rdI b s).1 then (rdI b s).2 else ((rdI b s).2.1, 50)) := Hid.mk (by
                have ha : acc = [] := List.eq_nil_of_length_eq_zero (by have := HI.out.len; omega)
                rw [HR.out, ha]
                simp [e3, okP])
              have hi0' : ¬ (0 : Int) < (i : Int) := by omega
              refine wp_region_held_drew (S := fun w' => w'.cell? ⟨r, 2, none⟩ = some (.int .i64 0)) (by kernel_rfl) ?_ (fun hHeld => ?_)
              · exact c3
              refine wpAnyH_take (i := 0) (oi := { dst := some 34, op := Op.move (Operand.tmp 0), type := 76, pos := "read.go:127", after := #[], guard := none }) (v := ?vb10) rfl (by kernel_rfl) (by kernel_rfl) (by kernel_rfl) (fun _ _ _ h => h) (Or.inl ⟨by rfl, ?hb10⟩) (by assumption) ?rb10
              case hb10 => (intro w0 hSw; (try dsimp only at hSw); go_simp; try (with_reducible rfl))
              simp only [Act.put, List.setIfInBounds_toArray, List.set_cons_zero, List.set_cons_succ]
              refine wpAnyH_take (i := 1) (oi := { dst := some 35, op := Op.nilCheck (Operand.tmp 34), type := 0, pos := "read.go:127", after := #[{ on := 0, ground := Ground.data }], guard := none }) (v := ?vb11) rfl (by kernel_rfl) (by kernel_rfl) (by kernel_rfl) (fun _ _ _ h => h) (Or.inl ⟨by rfl, ?hb11⟩) (by assumption) ?rb11
              case hb11 => (intro w0 hSw; (try dsimp only at hSw); go_simp; try (with_reducible rfl))
              simp only [Act.put, List.setIfInBounds_toArray, List.set_cons_zero, List.set_cons_succ]
              refine wpAnyH_take (i := 2) (oi := { dst := some 36, op := Op.fieldAddr 78 (Operand.tmp 35) 2, type := 0, pos := "read.go:127", after := #[{ on := 1, ground := Ground.data }], guard := none }) (v := ?vb12) rfl (by kernel_rfl) (by kernel_rfl) (by kernel_rfl) (fun _ _ _ h => h) (Or.inl ⟨by rfl, ?hb12⟩) (by assumption) ?rb12
              case hb12 => (intro w0 hSw; (try dsimp only at hSw); go_simp; try (with_reducible rfl))
              simp only [Act.put, List.setIfInBounds_toArray, List.set_cons_zero, List.set_cons_succ]
              refine wpAnyH_take (i := 3) (oi := { dst := some 37, op := Op.load 3 (Operand.tmp 36), type := 3, pos := "read.go:127", after := #[{ on := 2, ground := Ground.data }], guard := none }) (v := ?vb13) rfl (by kernel_rfl) (by kernel_rfl) (by kernel_rfl) (fun _ _ _ h => h) (Or.inl ⟨by rfl, ?hb13⟩) (by assumption) ?rb13
              case hb13 => (intro w0 hSw; (try dsimp only at hSw); go_simp; try (with_reducible rfl))
              simp only [Act.put, List.setIfInBounds_toArray, List.set_cons_zero, List.set_cons_succ]
              refine wpAnyH_take (i := 4) (oi := { dst := some 38, op := Op.binOp BinOp.eql 3 (Operand.tmp 37) (Operand.const (Value.int IntKind.i64 0)) 3, type := 4, pos := "read.go:127", after := #[{ on := 3, ground := Ground.data }], guard := none }) (v := ?vb14) rfl (by kernel_rfl) (by kernel_rfl) (by kernel_rfl) (fun _ _ _ h => h) (Or.inl ⟨by rfl, ?hb14⟩) (by assumption) ?rb14
              case hb14 => (intro w0 hSw; (try dsimp only at hSw); go_simp; try (with_reducible rfl))
              simp only [Act.put, List.setIfInBounds_toArray, List.set_cons_zero, List.set_cons_succ]
              refine wpAnyH_take (i := 5) (oi := { dst := some 39, op := Op.move (Operand.tmp 38), type := 4, pos := "read.go:127", after := #[{ on := 4, ground := Ground.data }], guard := none }) (v := ?vb15) rfl (by kernel_rfl) (by kernel_rfl) (by kernel_rfl) (fun _ _ _ h => h) (Or.inl ⟨by rfl, ?hb15⟩) (by assumption) ?rb15
              case hb15 => (intro w0 hSw; (try dsimp only at hSw); go_simp; try (with_reducible rfl))
              simp only [Act.put, List.setIfInBounds_toArray, List.set_cons_zero, List.set_cons_succ]
              refine wpAnyH_take (i := 6) (oi := { dst := some 40, op := Op.move (Operand.tmp 5), type := 3, pos := "read.go:127", after := #[{ on := 5, ground := Ground.guard }], guard := some (5, true) }) (v := ?vb16) rfl (by kernel_rfl) (by kernel_rfl) (by kernel_rfl) (fun _ _ _ h => h) (Or.inl ⟨by rfl, ?hb16⟩) (by assumption) ?rb16
              case hb16 => (intro w0 hSw; (try dsimp only at hSw); go_simp; try (with_reducible rfl))
              simp only [Act.put, List.setIfInBounds_toArray, List.set_cons_zero, List.set_cons_succ]
              refine wpAnyH_take (i := 7) (oi := { dst := some 41, op := Op.binOp BinOp.gtr 3 (Operand.tmp 40) (Operand.const (Value.int IntKind.i64 0)) 3, type := 4, pos := "read.go:127", after := #[{ on := 6, ground := Ground.data }, { on := 5, ground := Ground.guard }], guard := some (5, true) }) (v := ?vb17) rfl (by kernel_rfl) (by kernel_rfl) (by kernel_rfl) (fun _ _ _ h => h) (Or.inl ⟨by rfl, ?hb17⟩) (by assumption) ?rb17
              case hb17 => (intro w0 hSw; (try dsimp only at hSw); go_simp; try (with_reducible rfl))
              simp only [Act.put, List.setIfInBounds_toArray, List.set_cons_zero, List.set_cons_succ]
              refine wpAnyH_take (i := 8) (oi := { dst := some 42, op := Op.pick (Operand.tmp 39) (Operand.tmp 41) (Operand.const (Value.bool false)), type := 4, pos := "read.go:127", after := #[{ on := 5, ground := Ground.data }, { on := 7, ground := Ground.data }], guard := none }) (v := ?vb18) rfl (by kernel_rfl) (by kernel_rfl) (by kernel_rfl) (fun _ _ _ h => h) (Or.inl ⟨by rfl, ?hb18⟩) (by assumption) ?rb18
              case hb18 => (intro w0 hSw; (try dsimp only at hSw); go_simp; try (with_reducible rfl))
              simp only [Act.put, List.setIfInBounds_toArray, List.set_cons_zero, List.set_cons_succ]
              refine wpAnyH_take (i := 9) (oi := { dst := some 43, op := Op.move (Operand.tmp 42), type := 4, pos := "read.go:127", after := #[{ on := 8, ground := Ground.data }, { on := 5, ground := Ground.chain }], guard := none }) (v := ?vb19) rfl (by kernel_rfl) (by kernel_rfl) (by kernel_rfl) (fun _ _ _ h => h) (Or.inl ⟨by rfl, ?hb19⟩) (by assumption) ?rb19
              case hb19 => (intro w0 hSw; (try dsimp only at hSw); go_simp; try (with_reducible rfl))
              simp only [Act.put, List.setIfInBounds_toArray, List.set_cons_zero, List.set_cons_succ]
              refine wpAnyH_take (i := 10) (oi := { dst := some 44, op := Op.move (Operand.tmp 3), type := 26, pos := "read.go:127", after := #[{ on := 9, ground := Ground.guard }], guard := some (9, true) }) rfl (by kernel_rfl) (by kernel_rfl) (by kernel_rfl) (fun _ _ _ h => h) (Or.inr ⟨by rfl, rfl⟩) (by assumption) ?_
              simp only [Act.put, List.setIfInBounds_toArray, List.set_cons_zero, List.set_cons_succ]
              refine wpAnyH_take (i := 11) (oi := { dst := some 45, op := Op.move (Operand.tmp 5), type := 3, pos := "read.go:127", after := #[{ on := 9, ground := Ground.guard }], guard := some (9, true) }) rfl (by kernel_rfl) (by kernel_rfl) (by kernel_rfl) (fun _ _ _ h => h) (Or.inr ⟨by rfl, rfl⟩) (by assumption) ?_
              simp only [Act.put, List.setIfInBounds_toArray, List.set_cons_zero, List.set_cons_succ]
              refine wpAnyH_take (i := 12) (oi := { dst := some 46, op := Op.binOp BinOp.sub 3 (Operand.tmp 45) (Operand.const (Value.int IntKind.i64 1)) 3, type := 3, pos := "read.go:127", after := #[{ on := 11, ground := Ground.data }, { on := 9, ground := Ground.guard }], guard := some (9, true) }) rfl (by kernel_rfl) (by kernel_rfl) (by kernel_rfl) (fun _ _ _ h => h) (Or.inr ⟨by rfl, rfl⟩) (by assumption) ?_
              simp only [Act.put, List.setIfInBounds_toArray, List.set_cons_zero, List.set_cons_succ]
              refine wpAnyH_take (i := 13) (oi := { dst := some 47, op := Op.indexAddr 26 (Operand.tmp 44) (Operand.tmp 46), type := 0, pos := "read.go:127", after := #[{ on := 10, ground := Ground.data }, { on := 12, ground := Ground.data }, { on := 9, ground := Ground.guard }], guard := some (9, true) }) rfl (by kernel_rfl) (by kernel_rfl) (by kernel_rfl) (fun _ _ _ h => h) (Or.inr ⟨by rfl, rfl⟩) (by assumption) ?_
              simp only [Act.put, List.setIfInBounds_toArray, List.set_cons_zero, List.set_cons_succ]
              refine wpAnyH_take (i := 14) (oi := { dst := some 48, op := Op.load 25 (Operand.tmp 47), type := 25, pos := "read.go:127", after := #[{ on := 13, ground := Ground.data }, { on := 9, ground := Ground.guard }], guard := some (9, true) }) rfl (by kernel_rfl) (by kernel_rfl) (by kernel_rfl) (fun _ _ _ h => h) (Or.inr ⟨by rfl, rfl⟩) (by assumption) ?_
              simp only [Act.put, List.setIfInBounds_toArray, List.set_cons_zero, List.set_cons_succ]
              refine wpAnyH_take (i := 15) (oi := { dst := some 49, op := Op.load 25 (Operand.tmp 6), type := 25, pos := "read.go:127", after := #[{ on := 9, ground := Ground.guard }], guard := some (9, true) }) rfl (by kernel_rfl) (by kernel_rfl) (by kernel_rfl) (fun _ _ _ h => h) (Or.inr ⟨by rfl, rfl⟩) (by assumption) ?_
              simp only [Act.put, List.setIfInBounds_toArray, List.set_cons_zero, List.set_cons_succ]
              refine wpAnyH_take (i := 16) (oi := { dst := some 50, op := Op.call { callee := Callee.value (Operand.func 44), args := #[Operand.tmp 48, Operand.tmp 49], argTypes := #[25, 25] }, type := 4, pos := "read.go:127", after := #[{ on := 14, ground := Ground.data }, { on := 15, ground := Ground.data }, { on := 9, ground := Ground.chain }, { on := 9, ground := Ground.guard }], guard := some (9, true) }) rfl (by kernel_rfl) (by kernel_rfl) (by kernel_rfl) (fun _ _ _ h => h) (Or.inr ⟨by rfl, rfl⟩) (by assumption) ?_
              simp only [Act.put, List.setIfInBounds_toArray, List.set_cons_zero, List.set_cons_succ]
              refine wpAnyH_take (i := 17) (oi := { dst := some 51, op := Op.unOp UnOp.not 4 (Operand.tmp 50), type := 4, pos := "read.go:127", after := #[{ on := 16, ground := Ground.data }, { on := 9, ground := Ground.guard }], guard := some (9, true) }) rfl (by kernel_rfl) (by kernel_rfl) (by kernel_rfl) (fun _ _ _ h => h) (Or.inr ⟨by rfl, rfl⟩) (by assumption) ?_
              simp only [Act.put, List.setIfInBounds_toArray, List.set_cons_zero, List.set_cons_succ]
              refine wpAnyH_take (i := 18) (oi := { dst := some 52, op := Op.pick (Operand.tmp 43) (Operand.tmp 51) (Operand.const (Value.bool false)), type := 4, pos := "read.go:127", after := #[{ on := 9, ground := Ground.data }, { on := 17, ground := Ground.data }], guard := none }) (v := ?vb118) rfl (by kernel_rfl) (by kernel_rfl) (by kernel_rfl) (fun _ _ _ h => h) (Or.inl ⟨by rfl, ?hb118⟩) (by assumption) ?rb118
              case hb118 => (intro w0 hSw; (try dsimp only at hSw); go_simp; try (with_reducible rfl))
              simp only [Act.put, List.setIfInBounds_toArray, List.set_cons_zero, List.set_cons_succ]
              refine wpAnyH_done (by kernel_rfl) ?_ _
              have H3 : Hid (HRow xD.drew v acc ∧ Stay (· = r) w xD.drew ∧ RRd xD.drew r b s3 ∧ HC xD.drew B #[.int .i64 d1, .int .i64 d2, .string ct] 25) := ⟨H3.out.1.stay (F := fun _ => False) (.below (Below.refl _ xD).drew) (fun _ _ h => h), H3.out.2.1.andThen (.below (Below.refl _ xD).drew) (fun _ _ e => e), H3.out.2.2.1.below (Below.refl _ xD).drew, H3.out.2.2.2⟩
              obtain ⟨xz, hxz⟩ : ∃ xz, xz = xD.drew := ⟨_, rfl⟩
              rw [← hxz] at H3 ⊢
              clear hxz
              obtain ⟨v', w', hap, hr', sa, loc⟩ := hit_app1 xz acc v H3.out.1 ⟨d1, d2, ct⟩ HAC.out
              have HN2 : Hid (DI w w' r n b s0 (i + 1) v' (acc ++ [(rdI b s).1]) s3) := Hid.mk (HI.out.put h0 hlt (H3.out.2.2.1.stay sa (fun e => (H1.out.2.2.2.1 _ e).2 rfl)) (by rw [HR.out]; exact hr') (fun k hk => by rcases loc k hk with q | q; exact HI.out.own k q; exact Nat.le_trans H3.out.2.1.size q) (H3.out.2.1.andThen sa (fun k hk e => absurd (HI.out.own k e) (by omega))) HP.out)
              have y0 : xz.cell? ⟨B, 0, none⟩ = some (.int .i64 d1) := HC.cell H3.out.2.2.2 rfl
              have y1 : xz.cell? ⟨B, 1, none⟩ = some (.int .i64 d2) := HC.cell H3.out.2.2.2 rfl
              have y2 : xz.cell? ⟨B, 2, none⟩ = some (.string ct) := HC.cell H3.out.2.2.2 rfl
              clear hr' sa loc HP H3 HR H1 HAC
              go_wp2_with (first | (at_builtin; refine wpList_append_eq rfl _ _ 26 26 rfl _ _ _ _ rfl rfl hap ?_; clear hap) | fail)
              go_roundw
              case rel => exact ⟨_, i + 1, _, _, rfl, by go_num, HN2⟩
              case measure => simp [intOf]; omega
            · have hi0' : (0 : Int) < (i : Int) := by omega
              have hi0n : 0 < i := by omega
              obtain ⟨j, hj⟩ : ∃ j, i = j + 1 := ⟨i - 1, by omega⟩
              have hal := (HI.out.go h0).1
              have hjl : j < acc.length := by omega
              obtain ⟨lg, lc, hv, r0, r1, r2⟩ := H3.out.1.cells j hjl
              have hlast : acc.getLast? = some acc[j] := by rw [List.getLast?_eq_getElem?, List.getElem?_eq_getElem (by omega)]; congr 2; omega
              obtain ⟨pt, hpt⟩ : ∃ pt, pt = acc[j] := ⟨_, rfl⟩
              rw [← hpt] at r0 r1 r2 hlast
              have hfl := fun W => rordered_any pt ⟨d1, d2, ct⟩ W
              obtain ⟨fb, hfb⟩ : ∃ fb, fb = flB pt ⟨d1, d2, ct⟩ := ⟨_, rfl⟩
              rw [← hfb] at hfl
              have HP : Hid ((if (rdI b s).2.2 ≠ 0 then (rdI b s).2 else if okP acc.getLast? (rdI b s).1 then (rdI b s).2 else ((rdI b s).2.1, 50)) = if fb = true then s3 else (s3.1, 50)) := Hid.mk (by
                rw [HR.out, hlast]
                simp only [e3, okP, ← hfb]
                simp)
              have j0 : 0 ≤ (j : Int) := by omega
              have qq : Hid (IntKind.i64.wrap ((i : Int) - 1) = (j : Int) ∧ wrap64 ((i : Int) - 1) = (j : Int)) := ⟨i64_eq (by omega) (by omega), w64_eq (by omega) (by omega)⟩
              obtain ⟨a1, a2⟩ := qq.out
              have hjn : j < acc.length := hjl
              have hjc : (j : Int) < (acc.length : Int) := by omega
              obtain ⟨b0, b1, b2⟩ : xD.cell? ⟨B, 0, none⟩ = some (.int .i64 d1) ∧ xD.cell? ⟨B, 1, none⟩ = some (.int .i64 d2) ∧ xD.cell? ⟨B, 2, none⟩ = some (.string ct) := ⟨HC.cell H3.out.2.2.2 rfl, HC.cell H3.out.2.2.2 rfl, HC.cell H3.out.2.2.2 rfl⟩
              subst hv
              clear hal hlast hpt hfb qq hi0 hj
              obtain ⟨f0, f1, f2⟩ := pt
              simp only [htV] at hfl r0 r1 r2
              refine wp_region_held_drew (S := fun w' => w'.cell? ⟨r, 2, none⟩ = some (.int .i64 0) ∧ w'.cell? ⟨lg, j * 3, none⟩ = some (.int .i64 f0) ∧ w'.cell? ⟨lg, j * 3 + 1, none⟩ = some (.int .i64 f1) ∧ w'.cell? ⟨lg, j * 3 + 2, none⟩ = some (.string f2) ∧ w'.cell? ⟨B, 0, none⟩ = some (.int .i64 d1) ∧ w'.cell? ⟨B, 1, none⟩ = some (.int .i64 d2) ∧ w'.cell? ⟨B, 2, none⟩ = some (.string ct)) (by kernel_rfl) ?_ (fun hHeld => ?_)
              · exact ⟨c3, r0, r1, r2, b0, b1, b2⟩
              refine wpAnyH_take (i := 0) (oi := { dst := some 34, op := Op.move (Operand.tmp 0), type := 76, pos := "read.go:127", after := #[], guard := none }) (v := ?vc20) rfl (by kernel_rfl) (by kernel_rfl) (by kernel_rfl) (fun _ _ _ h => h) (Or.inl ⟨by rfl, ?hc20⟩) (by assumption) ?rc20
              case hc20 => (intro w0 hSw; (try dsimp only at hSw); go_simp; try (with_reducible rfl))
              simp only [Act.put, List.setIfInBounds_toArray, List.set_cons_zero, List.set_cons_succ]
              refine wpAnyH_take (i := 1) (oi := { dst := some 35, op := Op.nilCheck (Operand.tmp 34), type := 0, pos := "read.go:127", after := #[{ on := 0, ground := Ground.data }], guard := none }) (v := ?vc21) rfl (by kernel_rfl) (by kernel_rfl) (by kernel_rfl) (fun _ _ _ h => h) (Or.inl ⟨by rfl, ?hc21⟩) (by assumption) ?rc21
              case hc21 => (intro w0 hSw; (try dsimp only at hSw); go_simp; try (with_reducible rfl))
              simp only [Act.put, List.setIfInBounds_toArray, List.set_cons_zero, List.set_cons_succ]
              refine wpAnyH_take (i := 2) (oi := { dst := some 36, op := Op.fieldAddr 78 (Operand.tmp 35) 2, type := 0, pos := "read.go:127", after := #[{ on := 1, ground := Ground.data }], guard := none }) (v := ?vc22) rfl (by kernel_rfl) (by kernel_rfl) (by kernel_rfl) (fun _ _ _ h => h) (Or.inl ⟨by rfl, ?hc22⟩) (by assumption) ?rc22
              case hc22 => (intro w0 hSw; (try dsimp only at hSw); go_simp; try (with_reducible rfl))
              simp only [Act.put, List.setIfInBounds_toArray, List.set_cons_zero, List.set_cons_succ]
              refine wpAnyH_take (i := 3) (oi := { dst := some 37, op := Op.load 3 (Operand.tmp 36), type := 3, pos := "read.go:127", after := #[{ on := 2, ground := Ground.data }], guard := none }) (v := ?vc23) rfl (by kernel_rfl) (by kernel_rfl) (by kernel_rfl) (fun _ _ _ h => h) (Or.inl ⟨by rfl, ?hc23⟩) (by assumption) ?rc23
              case hc23 => (intro w0 hSw; (try dsimp only at hSw); go_simp; try (with_reducible rfl))
              simp only [Act.put, List.setIfInBounds_toArray, List.set_cons_zero, List.set_cons_succ]
              refine wpAnyH_take (i := 4) (oi := { dst := some 38, op := Op.binOp BinOp.eql 3 (Operand.tmp 37) (Operand.const (Value.int IntKind.i64 0)) 3, type := 4, pos := "read.go:127", after := #[{ on := 3, ground := Ground.data }], guard := none }) (v := ?vc24) rfl (by kernel_rfl) (by kernel_rfl) (by kernel_rfl) (fun _ _ _ h => h) (Or.inl ⟨by rfl, ?hc24⟩) (by assumption) ?rc24
              case hc24 => (intro w0 hSw; (try dsimp only at hSw); go_simp; try (with_reducible rfl))
              simp only [Act.put, List.setIfInBounds_toArray, List.set_cons_zero, List.set_cons_succ]
              refine wpAnyH_take (i := 5) (oi := { dst := some 39, op := Op.move (Operand.tmp 38), type := 4, pos := "read.go:127", after := #[{ on := 4, ground := Ground.data }], guard := none }) (v := ?vc25) rfl (by kernel_rfl) (by kernel_rfl) (by kernel_rfl) (fun _ _ _ h => h) (Or.inl ⟨by rfl, ?hc25⟩) (by assumption) ?rc25
              case hc25 => (intro w0 hSw; (try dsimp only at hSw); go_simp; try (with_reducible rfl))
              simp only [Act.put, List.setIfInBounds_toArray, List.set_cons_zero, List.set_cons_succ]
              refine wpAnyH_take (i := 6) (oi := { dst := some 40, op := Op.move (Operand.tmp 5), type := 3, pos := "read.go:127", after := #[{ on := 5, ground := Ground.guard }], guard := some (5, true) }) (v := ?vc26) rfl (by kernel_rfl) (by kernel_rfl) (by kernel_rfl) (fun _ _ _ h => h) (Or.inl ⟨by rfl, ?hc26⟩) (by assumption) ?rc26
              case hc26 => (intro w0 hSw; (try dsimp only at hSw); go_simp; try (with_reducible rfl))
              simp only [Act.put, List.setIfInBounds_toArray, List.set_cons_zero, List.set_cons_succ]
              refine wpAnyH_take (i := 7) (oi := { dst := some 41, op := Op.binOp BinOp.gtr 3 (Operand.tmp 40) (Operand.const (Value.int IntKind.i64 0)) 3, type := 4, pos := "read.go:127", after := #[{ on := 6, ground := Ground.data }, { on := 5, ground := Ground.guard }], guard := some (5, true) }) (v := ?vc27) rfl (by kernel_rfl) (by kernel_rfl) (by kernel_rfl) (fun _ _ _ h => h) (Or.inl ⟨by rfl, ?hc27⟩) (by assumption) ?rc27
              case hc27 => (intro w0 hSw; (try dsimp only at hSw); go_simp; try (with_reducible rfl))
              simp only [Act.put, List.setIfInBounds_toArray, List.set_cons_zero, List.set_cons_succ]
              refine wpAnyH_take (i := 8) (oi := { dst := some 42, op := Op.pick (Operand.tmp 39) (Operand.tmp 41) (Operand.const (Value.bool false)), type := 4, pos := "read.go:127", after := #[{ on := 5, ground := Ground.data }, { on := 7, ground := Ground.data }], guard := none }) (v := ?vc28) rfl (by kernel_rfl) (by kernel_rfl) (by kernel_rfl) (fun _ _ _ h => h) (Or.inl ⟨by rfl, ?hc28⟩) (by assumption) ?rc28
              case hc28 => (intro w0 hSw; (try dsimp only at hSw); go_simp; try (with_reducible rfl))
              simp only [Act.put, List.setIfInBounds_toArray, List.set_cons_zero, List.set_cons_succ]
              refine wpAnyH_take (i := 9) (oi := { dst := some 43, op := Op.move (Operand.tmp 42), type := 4, pos := "read.go:127", after := #[{ on := 8, ground := Ground.data }, { on := 5, ground := Ground.chain }], guard := none }) (v := ?vc29) rfl (by kernel_rfl) (by kernel_rfl) (by kernel_rfl) (fun _ _ _ h => h) (Or.inl ⟨by rfl, ?hc29⟩) (by assumption) ?rc29
              case hc29 => (intro w0 hSw; (try dsimp only at hSw); go_simp; try (with_reducible rfl))
              simp only [Act.put, List.setIfInBounds_toArray, List.set_cons_zero, List.set_cons_succ]
              refine wpAnyH_take (i := 10) (oi := { dst := some 44, op := Op.move (Operand.tmp 3), type := 26, pos := "read.go:127", after := #[{ on := 9, ground := Ground.guard }], guard := some (9, true) }) (v := ?vc210) rfl (by kernel_rfl) (by kernel_rfl) (by kernel_rfl) (fun _ _ _ h => h) (Or.inl ⟨by rfl, ?hc210⟩) (by assumption) ?rc210
              case hc210 => (intro w0 hSw; (try dsimp only at hSw); go_simp; try (with_reducible rfl))
              simp only [Act.put, List.setIfInBounds_toArray, List.set_cons_zero, List.set_cons_succ]
              refine wpAnyH_take (i := 11) (oi := { dst := some 45, op := Op.move (Operand.tmp 5), type := 3, pos := "read.go:127", after := #[{ on := 9, ground := Ground.guard }], guard := some (9, true) }) (v := ?vc211) rfl (by kernel_rfl) (by kernel_rfl) (by kernel_rfl) (fun _ _ _ h => h) (Or.inl ⟨by rfl, ?hc211⟩) (by assumption) ?rc211
              case hc211 => (intro w0 hSw; (try dsimp only at hSw); go_simp; try (with_reducible rfl))
              simp only [Act.put, List.setIfInBounds_toArray, List.set_cons_zero, List.set_cons_succ]
              refine wpAnyH_take (i := 12) (oi := { dst := some 46, op := Op.binOp BinOp.sub 3 (Operand.tmp 45) (Operand.const (Value.int IntKind.i64 1)) 3, type := 3, pos := "read.go:127", after := #[{ on := 11, ground := Ground.data }, { on := 9, ground := Ground.guard }], guard := some (9, true) }) (v := ?vc212) rfl (by kernel_rfl) (by kernel_rfl) (by kernel_rfl) (fun _ _ _ h => h) (Or.inl ⟨by rfl, ?hc212⟩) (by assumption) ?rc212
              case hc212 => (intro w0 hSw; (try dsimp only at hSw); go_simp; try (with_reducible rfl))
              simp only [Act.put, List.setIfInBounds_toArray, List.set_cons_zero, List.set_cons_succ]
              refine wpAnyH_take (i := 13) (oi := { dst := some 47, op := Op.indexAddr 26 (Operand.tmp 44) (Operand.tmp 46), type := 0, pos := "read.go:127", after := #[{ on := 10, ground := Ground.data }, { on := 12, ground := Ground.data }, { on := 9, ground := Ground.guard }], guard := some (9, true) }) (v := ?vc213) rfl (by kernel_rfl) (by kernel_rfl) (by kernel_rfl) (fun _ _ _ h => h) (Or.inl ⟨by rfl, ?hc213⟩) (by assumption) ?rc213
              case hc213 => (intro w0 hSw; (try dsimp only at hSw); go_simp; try (with_reducible rfl))
              simp only [Act.put, List.setIfInBounds_toArray, List.set_cons_zero, List.set_cons_succ]
              refine wpAnyH_take (i := 14) (oi := { dst := some 48, op := Op.load 25 (Operand.tmp 47), type := 25, pos := "read.go:127", after := #[{ on := 13, ground := Ground.data }, { on := 9, ground := Ground.guard }], guard := some (9, true) }) (v := ?vc214) rfl (by kernel_rfl) (by kernel_rfl) (by kernel_rfl) (fun _ _ _ h => h) (Or.inl ⟨by rfl, ?hc214⟩) (by assumption) ?rc214
              case hc214 => (intro w0 hSw; (try dsimp only at hSw); go_simp; try (with_reducible rfl))
              simp only [Act.put, List.setIfInBounds_toArray, List.set_cons_zero, List.set_cons_succ]
              refine wpAnyH_take (i := 15) (oi := { dst := some 49, op := Op.load 25 (Operand.tmp 6), type := 25, pos := "read.go:127", after := #[{ on := 9, ground := Ground.guard }], guard := some (9, true) }) (v := ?vc215) rfl (by kernel_rfl) (by kernel_rfl) (by kernel_rfl) (fun _ _ _ h => h) (Or.inl ⟨by rfl, ?hc215⟩) (by assumption) ?rc215
              case hc215 => (intro w0 hSw; (try dsimp only at hSw); go_simp; try (with_reducible rfl))
              simp only [Act.put, List.setIfInBounds_toArray, List.set_cons_zero, List.set_cons_succ]
              refine wpAnyH_ready (rs := [16]) (by kernel_rfl) (by simp) ?_
              refine AllReadyH.cons rfl (fun K hK => ?_) AllReadyH.nil
              go_simp
              go_wp2_with (go_at_call 44; refine (hfl _).mono ?_; clear hfl; rintro e x8 ⟨rfl, b8⟩; have b8' := below_d b8; have H8 : Hid (HRow x8 (.slice (some ⟨lg, 0, none⟩) acc.length lc) acc ∧ Stay (· = r) w x8 ∧ RRd x8 r b s3 ∧ HC x8 B #[.int .i64 d1, .int .i64 d2, .string ct] 25) := ⟨H3.out.1.stay (F := fun _ => False) (.below b8') (fun _ _ h => h), H3.out.2.1.andThen (.below b8') (fun _ _ e => e), H3.out.2.2.1.below b8', H3.out.2.2.2.below b8'⟩; have k8 := And.intro (cell_below b8' c3) (And.intro (cell_below b8' r0) (And.intro (cell_below b8' r1) (And.intro (cell_below b8' r2) (And.intro (cell_below b8' b0) (And.intro (cell_below b8' b1) (cell_below b8' b2)))))); clear b8 b8' H3)
              refine hK.out _ _ ?_ (fun hHeld => ?_)
              · exact k8
              clear hK K
              refine wpAnyH_take (i := 17) (oi := { dst := some 51, op := Op.unOp UnOp.not 4 (Operand.tmp 50), type := 4, pos := "read.go:127", after := #[{ on := 16, ground := Ground.data }, { on := 9, ground := Ground.guard }], guard := some (9, true) }) (v := ?vc217) rfl (by kernel_rfl) (by kernel_rfl) (by kernel_rfl) (fun _ _ _ h => h) (Or.inl ⟨by rfl, ?hc217⟩) (by assumption) ?rc217
              case hc217 => (intro w0 hSw; (try dsimp only at hSw); go_simp; try (with_reducible rfl))
              simp only [Act.put, List.setIfInBounds_toArray, List.set_cons_zero, List.set_cons_succ]
              refine wpAnyH_take (i := 18) (oi := { dst := some 52, op := Op.pick (Operand.tmp 43) (Operand.tmp 51) (Operand.const (Value.bool false)), type := 4, pos := "read.go:127", after := #[{ on := 9, ground := Ground.data }, { on := 17, ground := Ground.data }], guard := none }) (v := ?vc218) rfl (by kernel_rfl) (by kernel_rfl) (by kernel_rfl) (fun _ _ _ h => h) (Or.inl ⟨by rfl, ?hc218⟩) (by assumption) ?rc218
              case hc218 => (intro w0 hSw; (try dsimp only at hSw); go_simp; try (with_reducible rfl))
              simp only [Act.put, List.setIfInBounds_toArray, List.set_cons_zero, List.set_cons_succ]
              refine wpAnyH_done (by kernel_rfl) ?_ _
              cases fb with
              | true =>
                have HP : Hid (s3 = if (rdI b s).2.2 ≠ 0 then (rdI b s).2 else if okP acc.getLast? (rdI b s).1 then (rdI b s).2 else ((rdI b s).2.1, 50)) := Hid.mk (by rw [HP.out]; simp)
                have H3 := H8
                obtain ⟨v', w', hap, hr', sa, loc⟩ := hit_app1 x8 acc (.slice (some ⟨lg, 0, none⟩) acc.length lc) H3.out.1 ⟨d1, d2, ct⟩ HAC.out
                have HN2 : Hid (DI w w' r n b s0 (i + 1) v' (acc ++ [(rdI b s).1]) s3) := Hid.mk (HI.out.put h0 hlt (H3.out.2.2.1.stay sa (fun e => (H1.out.2.2.2.1 _ e).2 rfl)) (by rw [HR.out]; exact hr') (fun k hk => by rcases loc k hk with q | q; exact HI.out.own k q; exact Nat.le_trans H3.out.2.1.size q) (H3.out.2.1.andThen sa (fun k hk e => absurd (HI.out.own k e) (by omega))) HP.out)
                have y0 : x8.cell? ⟨B, 0, none⟩ = some (.int .i64 d1) := HC.cell H3.out.2.2.2 rfl
                have y1 : x8.cell? ⟨B, 1, none⟩ = some (.int .i64 d2) := HC.cell H3.out.2.2.2 rfl
                have y2 : x8.cell? ⟨B, 2, none⟩ = some (.string ct) := HC.cell H3.out.2.2.2 rfl
                clear hr' sa loc HP H3 HR H1 HAC
                go_wp2_with (first | (at_builtin; refine wpList_append_eq rfl _ _ 26 26 rfl _ _ _ _ rfl rfl hap ?_; clear hap) | fail)
                go_roundw
                case rel => exact ⟨_, i + 1, _, _, rfl, by go_num, HN2⟩
                case measure => simp [intOf]; omega
              | false =>
                have HP : Hid ((s3.1, (50 : Int)) = if (rdI b s).2.2 ≠ 0 then (rdI b s).2 else if okP acc.getLast? (rdI b s).1 then (rdI b s).2 else ((rdI b s).2.1, 50)) := Hid.mk (by rw [HP.out]; simp)
                obtain ⟨p8, hc8, hp8, hq8⟩ := H8.out.2.2.1
                have hR := rrefuse_any b p8 s3.2 50 x8 r hc8
                rw [if_pos e3] at hR
                have HP8 := Hid.mk (And.intro hp8 hq8)
                clear hc8 hp8 hq8
                go_upto_region 13 with (go_at_call 51; refine hR.mono ?_; clear hR; rintro e x9 ⟨rfl, hc9, st9⟩)
                have H3 : Hid (HRow x9 (.slice (some ⟨lg, 0, none⟩) acc.length lc) acc ∧ Stay (· = r) w x9 ∧ RRd x9 r b (s3.1, 50) ∧ HC x9 B #[.int .i64 d1, .int .i64 d2, .string ct] 25) := by
                  obtain ⟨k1, k2, k3, k4⟩ := H8.out
                  exact ⟨k1.stay st9 (fun k hk e => (H1.out.2.2.2.1 k hk).2 e), k2.andThen st9 (fun _ _ e => e), ⟨p8, hc9, HP8.out.1, fun e => by cases e⟩, k4.stay st9 (by omega)⟩
                clear hc9 st9 H8
                obtain ⟨v', w', hap, hr', sa, loc⟩ := hit_app1 x9 acc (.slice (some ⟨lg, 0, none⟩) acc.length lc) H3.out.1 ⟨d1, d2, ct⟩ HAC.out
                have HN2 : Hid (DI w w' r n b s0 (i + 1) v' (acc ++ [(rdI b s).1]) (s3.1, 50)) := Hid.mk (HI.out.put h0 hlt (H3.out.2.2.1.stay sa (fun e => (H1.out.2.2.2.1 _ e).2 rfl)) (by rw [HR.out]; exact hr') (fun k hk => by rcases loc k hk with q | q; exact HI.out.own k q; exact Nat.le_trans H3.out.2.1.size q) (H3.out.2.1.andThen sa (fun k hk e => absurd (HI.out.own k e) (by omega))) HP.out)
                have y0 : x9.cell? ⟨B, 0, none⟩ = some (.int .i64 d1) := HC.cell H3.out.2.2.2 rfl
                have y1 : x9.cell? ⟨B, 1, none⟩ = some (.int .i64 d2) := HC.cell H3.out.2.2.2 rfl
                have y2 : x9.cell? ⟨B, 2, none⟩ = some (.string ct) := HC.cell H3.out.2.2.2 rfl
                clear hr' sa loc HP H3 HR H1 HAC
                go_wp2_with (first | (at_builtin; refine wpList_append_eq rfl _ _ 26 26 rfl _ _ _ _ rfl rfl hap ?_; clear hap) | fail)
                go_roundw
                case rel => exact ⟨_, i + 1, _, _, rfl, by go_num, HN2⟩
                case measure => simp [intOf]; omega
          · have e3b : (s3.2 == 0) = false := by simpa using e3
            have HP : Hid (s3 = if (rdI b s).2.2 ≠ 0 then (rdI b s).2 else if okP acc.getLast? (rdI b s).1 then (rdI b s).2 else ((rdI b s).2.1, 50)) := Hid.mk (by rw [HR.out]; simp only []; rw [if_pos e3])
            refine wp_region_held_drew (S := fun w' => w'.cell? ⟨r, 2, none⟩ = some (.int .i64 s3.2)) (by kernel_rfl) ?_ (fun hHeld => ?_)
            · exact c3
            refine wpAnyH_take (i := 0) (oi := { dst := some 34, op := Op.move (Operand.tmp 0), type := 76, pos := "read.go:127", after := #[], guard := none }) (v := ?va30) rfl (by kernel_rfl) (by kernel_rfl) (by kernel_rfl) (fun _ _ _ h => h) (Or.inl ⟨by rfl, ?ha30⟩) (by assumption) ?ra30
            case ha30 => (intro w0 hSw; (try dsimp only at hSw); go_simp; try (with_reducible rfl))
            simp only [Act.put, List.setIfInBounds_toArray, List.set_cons_zero, List.set_cons_succ]
            refine wpAnyH_take (i := 1) (oi := { dst := some 35, op := Op.nilCheck (Operand.tmp 34), type := 0, pos := "read.go:127", after := #[{ on := 0, ground := Ground.data }], guard := none }) (v := ?va31) rfl (by kernel_rfl) (by kernel_rfl) (by kernel_rfl) (fun _ _ _ h => h) (Or.inl ⟨by rfl, ?ha31⟩) (by assumption) ?ra31
            case ha31 => (intro w0 hSw; (try dsimp only at hSw); go_simp; try (with_reducible rfl))
            simp only [Act.put, List.setIfInBounds_toArray, List.set_cons_zero, List.set_cons_succ]
            refine wpAnyH_take (i := 2) (oi := { dst := some 36, op := Op.fieldAddr 78 (Operand.tmp 35) 2, type := 0, pos := "read.go:127", after := #[{ on := 1, ground := Ground.data }], guard := none }) (v := ?va32) rfl (by kernel_rfl) (by kernel_rfl) (by kernel_rfl) (fun _ _ _ h => h) (Or.inl ⟨by rfl, ?ha32⟩) (by assumption) ?ra32
            case ha32 => (intro w0 hSw; (try dsimp only at hSw); go_simp; try (with_reducible rfl))
            simp only [Act.put, List.setIfInBounds_toArray, List.set_cons_zero, List.set_cons_succ]
            refine wpAnyH_take (i := 3) (oi := { dst := some 37, op := Op.load 3 (Operand.tmp 36), type := 3, pos := "read.go:127", after := #[{ on := 2, ground := Ground.data }], guard := none }) (v := ?va33) rfl (by kernel_rfl) (by kernel_rfl) (by kernel_rfl) (fun _ _ _ h => h) (Or.inl ⟨by rfl, ?ha33⟩) (by assumption) ?ra33
            case ha33 => (intro w0 hSw; (try dsimp only at hSw); go_simp; try (with_reducible rfl))
            simp only [Act.put, List.setIfInBounds_toArray, List.set_cons_zero, List.set_cons_succ]
            refine wpAnyH_take (i := 4) (oi := { dst := some 38, op := Op.binOp BinOp.eql 3 (Operand.tmp 37) (Operand.const (Value.int IntKind.i64 0)) 3, type := 4, pos := "read.go:127", after := #[{ on := 3, ground := Ground.data }], guard := none }) (v := ?va34) rfl (by kernel_rfl) (by kernel_rfl) (by kernel_rfl) (fun _ _ _ h => h) (Or.inl ⟨by rfl, ?ha34⟩) (by assumption) ?ra34
            case ha34 => (intro w0 hSw; (try dsimp only at hSw); go_simp; try (with_reducible rfl))
            simp only [Act.put, List.setIfInBounds_toArray, List.set_cons_zero, List.set_cons_succ]
            refine wpAnyH_take (i := 5) (oi := { dst := some 39, op := Op.move (Operand.tmp 38), type := 4, pos := "read.go:127", after := #[{ on := 4, ground := Ground.data }], guard := none }) (v := ?va35) rfl (by kernel_rfl) (by kernel_rfl) (by kernel_rfl) (fun _ _ _ h => h) (Or.inl ⟨by rfl, ?ha35⟩) (by assumption) ?ra35
            case ha35 => (intro w0 hSw; (try dsimp only at hSw); go_simp; try (with_reducible rfl))
            simp only [Act.put, List.setIfInBounds_toArray, List.set_cons_zero, List.set_cons_succ]
            refine wpAnyH_take (i := 6) (oi := { dst := some 40, op := Op.move (Operand.tmp 5), type := 3, pos := "read.go:127", after := #[{ on := 5, ground := Ground.guard }], guard := some (5, true) }) rfl (by kernel_rfl) (by kernel_rfl) (by kernel_rfl) (fun _ _ _ h => h) (Or.inr ⟨by rfl, rfl⟩) (by assumption) ?_
            simp only [Act.put, List.setIfInBounds_toArray, List.set_cons_zero, List.set_cons_succ]
            refine wpAnyH_take (i := 7) (oi := { dst := some 41, op := Op.binOp BinOp.gtr 3 (Operand.tmp 40) (Operand.const (Value.int IntKind.i64 0)) 3, type := 4, pos := "read.go:127", after := #[{ on := 6, ground := Ground.data }, { on := 5, ground := Ground.guard }], guard := some (5, true) }) rfl (by kernel_rfl) (by kernel_rfl) (by kernel_rfl) (fun _ _ _ h => h) (Or.inr ⟨by rfl, rfl⟩) (by assumption) ?_
            simp only [Act.put, List.setIfInBounds_toArray, List.set_cons_zero, List.set_cons_succ]
            refine wpAnyH_take (i := 8) (oi := { dst := some 42, op := Op.pick (Operand.tmp 39) (Operand.tmp 41) (Operand.const (Value.bool false)), type := 4, pos := "read.go:127", after := #[{ on := 5, ground := Ground.data }, { on := 7, ground := Ground.data }], guard := none }) (v := ?va38) rfl (by kernel_rfl) (by kernel_rfl) (by kernel_rfl) (fun _ _ _ h => h) (Or.inl ⟨by rfl, ?ha38⟩) (by assumption) ?ra38
            case ha38 => (intro w0 hSw; (try dsimp only at hSw); go_simp; try (with_reducible rfl))
            simp only [Act.put, List.setIfInBounds_toArray, List.set_cons_zero, List.set_cons_succ]
            refine wpAnyH_take (i := 9) (oi := { dst := some 43, op := Op.move (Operand.tmp 42), type := 4, pos := "read.go:127", after := #[{ on := 8, ground := Ground.data }, { on := 5, ground := Ground.chain }], guard := none }) (v := ?va39) rfl (by kernel_rfl) (by kernel_rfl) (by kernel_rfl) (fun _ _ _ h => h) (Or.inl ⟨by rfl, ?ha39⟩) (by assumption) ?ra39
            case ha39 => (intro w0 hSw; (try dsimp only at hSw); go_simp; try (with_reducible rfl))
            simp only [Act.put, List.setIfInBounds_toArray, List.set_cons_zero, List.set_cons_succ]
            refine wpAnyH_take (i := 10) (oi := { dst := some 44, op := Op.move (Operand.tmp 3), type := 26, pos := "read.go:127", after := #[{ on := 9, ground := Ground.guard }], guard := some (9, true) }) rfl (by kernel_rfl) (by kernel_rfl) (by kernel_rfl) (fun _ _ _ h => h) (Or.inr ⟨by rfl, rfl⟩) (by assumption) ?_
            simp only [Act.put, List.setIfInBounds_toArray, List.set_cons_zero, List.set_cons_succ]
            refine wpAnyH_take (i := 11) (oi := { dst := some 45, op := Op.move (Operand.tmp 5), type := 3, pos := "read.go:127", after := #[{ on := 9, ground := Ground.guard }], guard := some (9, true) }) rfl (by kernel_rfl) (by kernel_rfl) (by kernel_rfl) (fun _ _ _ h => h) (Or.inr ⟨by rfl, rfl⟩) (by assumption) ?_
            simp only [Act.put, List.setIfInBounds_toArray, List.set_cons_zero, List.set_cons_succ]
            refine wpAnyH_take (i := 12) (oi := { dst := some 46, op := Op.binOp BinOp.sub 3 (Operand.tmp 45) (Operand.const (Value.int IntKind.i64 1)) 3, type := 3, pos := "read.go:127", after := #[{ on := 11, ground := Ground.data }, { on := 9, ground := Ground.guard }], guard := some (9, true) }) rfl (by kernel_rfl) (by kernel_rfl) (by kernel_rfl) (fun _ _ _ h => h) (Or.inr ⟨by rfl, rfl⟩) (by assumption) ?_
            simp only [Act.put, List.setIfInBounds_toArray, List.set_cons_zero, List.set_cons_succ]
            refine wpAnyH_take (i := 13) (oi := { dst := some 47, op := Op.indexAddr 26 (Operand.tmp 44) (Operand.tmp 46), type := 0, pos := "read.go:127", after := #[{ on := 10, ground := Ground.data }, { on := 12, ground := Ground.data }, { on := 9, ground := Ground.guard }], guard := some (9, true) }) rfl (by kernel_rfl) (by kernel_rfl) (by kernel_rfl) (fun _ _ _ h => h) (Or.inr ⟨by rfl, rfl⟩) (by assumption) ?_
            simp only [Act.put, List.setIfInBounds_toArray, List.set_cons_zero, List.set_cons_succ]
            refine wpAnyH_take (i := 14) (oi := { dst := some 48, op := Op.load 25 (Operand.tmp 47), type := 25, pos := "read.go:127", after := #[{ on := 13, ground := Ground.data }, { on := 9, ground := Ground.guard }], guard := some (9, true) }) rfl (by kernel_rfl) (by kernel_rfl) (by kernel_rfl) (fun _ _ _ h => h) (Or.inr ⟨by rfl, rfl⟩) (by assumption) ?_
            simp only [Act.put, List.setIfInBounds_toArray, List.set_cons_zero, List.set_cons_succ]
            refine wpAnyH_take (i := 15) (oi := { dst := some 49, op := Op.load 25 (Operand.tmp 6), type := 25, pos := "read.go:127", after := #[{ on := 9, ground := Ground.guard }], guard := some (9, true) }) rfl (by kernel_rfl) (by kernel_rfl) (by kernel_rfl) (fun _ _ _ h => h) (Or.inr ⟨by rfl, rfl⟩) (by assumption) ?_
            simp only [Act.put, List.setIfInBounds_toArray, List.set_cons_zero, List.set_cons_succ]
            refine wpAnyH_take (i := 16) (oi := { dst := some 50, op := Op.call { callee := Callee.value (Operand.func 44), args := #[Operand.tmp 48, Operand.tmp 49], argTypes := #[25, 25] }, type := 4, pos := "read.go:127", after := #[{ on := 14, ground := Ground.data }, { on := 15, ground := Ground.data }, { on := 9, ground := Ground.chain }, { on := 9, ground := Ground.guard }], guard := some (9, true) }) rfl (by kernel_rfl) (by kernel_rfl) (by kernel_rfl) (fun _ _ _ h => h) (Or.inr ⟨by rfl, rfl⟩) (by assumption) ?_
            simp only [Act.put, List.setIfInBounds_toArray, List.set_cons_zero, List.set_cons_succ]
            refine wpAnyH_take (i := 17) (oi := { dst := some 51, op := Op.unOp UnOp.not 4 (Operand.tmp 50), type := 4, pos := "read.go:127", after := #[{ on := 16, ground := Ground.data }, { on := 9, ground := Ground.guard }], guard := some (9, true) }) rfl (by kernel_rfl) (by kernel_rfl) (by kernel_rfl) (fun _ _ _ h => h) (Or.inr ⟨by rfl, rfl⟩) (by assumption) ?_
            simp only [Act.put, List.setIfInBounds_toArray, List.set_cons_zero, List.set_cons_succ]
            refine wpAnyH_take (i := 18) (oi := { dst := some 52, op := Op.pick (Operand.tmp 43) (Operand.tmp 51) (Operand.const (Value.bool false)), type := 4, pos := "read.go:127", after := #[{ on := 9, ground := Ground.data }, { on := 17, ground := Ground.data }], guard := none }) (v := ?va318) rfl (by kernel_rfl) (by kernel_rfl) (by kernel_rfl) (fun _ _ _ h => h) (Or.inl ⟨by rfl, ?ha318⟩) (by assumption) ?ra318
            case ha318 => (intro w0 hSw; (try dsimp only at hSw); go_simp; try (with_reducible rfl))
            simp only [Act.put, List.setIfInBounds_toArray, List.set_cons_zero, List.set_cons_succ]
            refine wpAnyH_done (by kernel_rfl) ?_ _
            have H3 : Hid (HRow xD.drew v acc ∧ Stay (· = r) w xD.drew ∧ RRd xD.drew r b s3 ∧ HC xD.drew B #[.int .i64 d1, .int .i64 d2, .string ct] 25) := ⟨H3.out.1.stay (F := fun _ => False) (.below (Below.refl _ xD).drew) (fun _ _ h => h), H3.out.2.1.andThen (.below (Below.refl _ xD).drew) (fun _ _ e => e), H3.out.2.2.1.below (Below.refl _ xD).drew, H3.out.2.2.2⟩
            obtain ⟨xz, hxz⟩ : ∃ xz, xz = xD.drew := ⟨_, rfl⟩
            rw [← hxz] at H3 ⊢
            clear hxz
            obtain ⟨v', w', hap, hr', sa, loc⟩ := hit_app1 xz acc v H3.out.1 ⟨d1, d2, ct⟩ HAC.out
            have HN2 : Hid (DI w w' r n b s0 (i + 1) v' (acc ++ [(rdI b s).1]) s3) := Hid.mk (HI.out.put h0 hlt (H3.out.2.2.1.stay sa (fun e => (H1.out.2.2.2.1 _ e).2 rfl)) (by rw [HR.out]; exact hr') (fun k hk => by rcases loc k hk with q | q; exact HI.out.own k q; exact Nat.le_trans H3.out.2.1.size q) (H3.out.2.1.andThen sa (fun k hk e => absurd (HI.out.own k e) (by omega))) HP.out)
            have y0 : xz.cell? ⟨B, 0, none⟩ = some (.int .i64 d1) := HC.cell H3.out.2.2.2 rfl
            have y1 : xz.cell? ⟨B, 1, none⟩ = some (.int .i64 d2) := HC.cell H3.out.2.2.2 rfl
            have y2 : xz.cell? ⟨B, 2, none⟩ = some (.string ct) := HC.cell H3.out.2.2.2 rfl
            clear hr' sa loc HP H3 HR H1 HAC
            go_wp2_with (first | (at_builtin; refine wpList_append_eq rfl _ _ 26 26 rfl _ _ _ _ rfl rfl hap ?_; clear hap) | fail)
            go_roundw
            case rel => exact ⟨_, i + 1, _, _, rfl, by go_num, HN2⟩
            case measure => simp [intOf]; omega
        · have h0b : (s.2 == 0) = false := by simpa using h0
          have HF := Hid.mk (HI.out.fin (fun e => absurd e h0))
          obtain ⟨a, c, ev, -⟩ := slice_form HI.out.row
          clear HI hcr hps
          go_wp2
          go_ret
          exact ⟨_, rfl, HF.out⟩
      · have hlt' : ¬ (i : Int) < (n : Int) := by omega
        have HF := Hid.mk (HI.out.fin (fun _ => hlt))
        clear HI hcr hps
        go_wp2
        go_ret
        exact ⟨_, rfl, HF.out⟩
  · have hbig' : ¬ (65536 : Int) < (n : Int) := by omega
    have H0 : Hid (DI w w1 r n b s0 0 (.slice none 0 0) [] (rdN b s0).2) := Hid.mk (by
      subst hn
      exact DI.start rd1 st1 HB.out.2 (by omega))
    clear rd1 st1 hn hbig
    go_upto_region 5 with fail
    go_wp2
    go_loopw [3, 5, 6] (fun o u q wr => ∃ (v : Value) (i : Nat) (acc : List Ht) (s : RS), o = v ∧ u = .int .i64 i ∧ Hid (DI w wr r n b s0 i v acc s)) (fun _ u _ _ => n - (intOf u).toNat)
    case atStart => exact ⟨_, 0, _, _, rfl, rfl, H0⟩
    case round =>
      obtain ⟨v, i, acc, s, hvo, rfl, HI⟩ := hrel
      replace hvo := hvo.symm
      subst hvo
      clear H0
      obtain ⟨p, hcr, hpb, hps⟩ := HI.out.rd
      have c2 : wr.cell? ⟨r, 2, none⟩ = some (.int .i64 s.2) := hcr.cell rfl
      have hi5 := HI.out.big
      by_cases hlt : i < n
      · have hlt' : (i : Int) < (n : Int) := by omega
        by_cases h0 : s.2 = 0
        · rw [h0] at c2
          have hA1 := rany_any b s wr r HB.out.1 HI.out.rd
          clear hcr hps hpb
          go_upto_region 9 with (go_at_call 31; refine hA1.mono ?_; clear hA1; rintro e x1 ⟨rfl, rd1, st1⟩)
          obtain ⟨d1, hd1⟩ : ∃ d1, d1 = (rdN b s).1 := ⟨_, rfl⟩
          obtain ⟨s1, hs1⟩ : ∃ s1, s1 = (rdN b s).2 := ⟨_, rfl⟩
          rw [← hd1]
          rw [← hs1] at rd1
          obtain ⟨xB, hxB⟩ : ∃ xB, xB = x1.alloc (.cells #[.int .i64 d1, .int .i64 0, .string ⟨#[]⟩] 25) := ⟨_, rfl⟩
          rw [← hxB]
          have bB : Below x1.heap.size x1 xB := by rw [hxB]; exact (Below.refl _ x1).alloc (Nat.le_refl _) _
          have bxB : HC xB x1.heap.size #[.int .i64 d1, .int .i64 0, .string ⟨#[]⟩] 25 := by rw [hxB]; exact HC.new x1 _ _
          have hrB : r < x1.heap.size := Nat.lt_of_lt_of_le HI.out.lr (Nat.le_trans HI.out.st.size st1.size)
          have hvB : ∀ k, v.ownBlock = some k → k < x1.heap.size ∧ k ≠ r := fun k hk => ⟨Nat.lt_of_lt_of_le (row_lt HI.out.row hk) st1.size, by have := HI.out.own k hk; have := HI.out.lr; omega⟩
          have rowB : HRow xB v acc := (HI.out.row.stay st1 (fun k hk e => (hvB k hk).2 e)).stay (F := fun _ => False) (.below bB) (fun _ _ h => h)
          have stB : Stay (· = r) w xB := (HI.out.st.andThen st1 (fun _ _ e => e)).andThen (.below bB) (fun _ _ e => e)
          obtain ⟨B, hBB⟩ : ∃ B, B = x1.heap.size := ⟨_, rfl⟩
          have hwB : w.heap.size ≤ B := by rw [hBB]; exact Nat.le_trans HI.out.st.size st1.size
          rw [← hBB] at bxB hrB hvB ⊢
          have hA2 := rany_any b s1 xB r HB.out.1 (rd1.below bB)
          have H1 := Hid.mk (And.intro bxB (And.intro rowB (And.intro stB (And.intro hvB (And.intro hwB (And.intro hd1 hs1))))))
          clear hxB bB rd1 st1 bxB hvB rowB stB hBB hwB hd1 hs1 c2
          go_upto_region 10 with (go_at_call 31; refine hA2.mono ?_; clear hA2; rintro e x2 ⟨rfl, rd2, st2⟩; have bx2 := HC.stay H1.out.1 st2 (by omega); have y1 : x2.cell? ⟨B, 1, none⟩ = some (.int .i64 0) := HC.cell bx2 rfl; have z1 := HC.free bx2 1)
          obtain ⟨d2, hd2⟩ : ∃ d2, d2 = (rdN b s1).1 := ⟨_, rfl⟩
          obtain ⟨s2, hs2⟩ : ∃ s2, s2 = (rdN b s1).2 := ⟨_, rfl⟩
          rw [← hd2]
          rw [← hs2] at rd2
          obtain ⟨xC, hxC⟩ : ∃ xC, xC = x2.setCell ⟨B, 1, none⟩ (.int .i64 d2) := ⟨_, rfl⟩
          rw [← hxC]
          have sC : Stay (· = B) x2 xC := by rw [hxC]; exact Stay.setCell (F := (· = B)) (p := ⟨B, 1, none⟩) (Stay.refl _ x2) (fun _ => rfl) _
          have bxC : HC xC B #[.int .i64 d1, .int .i64 d2, .string ⟨#[]⟩] 25 := by rw [hxC]; exact HC.set bx2 1 _
          have hA3 := rrtext_any b s2 xC r HB.out.1 (rd2.stay sC (by omega))
          have H2 : Hid (HRow xC v acc ∧ Stay (· = r) w xC) := by
            obtain ⟨-, k2, k3, k4, k5, -⟩ := H1.out
            exact ⟨(k2.stay st2 (fun k hk e => (k4 k hk).2 e)).stay sC (fun k hk e => by have := (k4 k hk).1; omega), (k3.andThen st2 (fun _ _ e => e)).andThen sC (fun i hi e => by omega)⟩
          have HC2 := Hid.mk (And.intro bxC (And.intro hd2 hs2))
          clear hxC sC bxC bx2 rd2 st2 y1 z1 hd2 hs2
          go_upto_region 11 with (go_at_call 30; refine hA3.mono ?_; clear hA3; rintro e x3 ⟨rfl, rd3, st3⟩; have bx3 := HC.stay HC2.out.1 st3 (by omega); have y2 : x3.cell? ⟨B, 2, none⟩ = some (.string ⟨#[]⟩) := HC.cell bx3 rfl; have z2 := HC.free bx3 2)
          obtain ⟨l3, hl3⟩ : ∃ l3, l3 = (rdT b s2).1 := ⟨_, rfl⟩
          obtain ⟨s3, hs3⟩ : ∃ s3, s3 = (rdT b s2).2 := ⟨_, rfl⟩
          rw [← hl3]
          rw [← hs3] at rd3
          obtain ⟨ct, hct⟩ : ∃ ct : ByteArray, ct = ⟨l3.toArray⟩ := ⟨_, rfl⟩
          have HR : Hid (rdI b s = (⟨d1, d2, ct⟩, s3)) := Hid.mk (by
            obtain ⟨-, -, -, -, -, k1, k2⟩ := H1.out
            obtain ⟨-, k3, k4⟩ := HC2.out
            unfold rdI
            rw [← k1, ← k2, ← k3, ← k4, ← hl3, ← hs3, ← hct])
          rw [← hct]
          obtain ⟨xD, hxD⟩ : ∃ xD, xD = x3.setCell ⟨B, 2, none⟩ (.string ct) := ⟨_, rfl⟩
          rw [← hxD]
          have sD : Stay (· = B) x3 xD := by rw [hxD]; exact Stay.setCell (F := (· = B)) (p := ⟨B, 2, none⟩) (Stay.refl _ x3) (fun _ => rfl) _
          have bxD : HC xD B #[.int .i64 d1, .int .i64 d2, .string ct] 25 := by rw [hxD]; exact HC.set bx3 2 _
          have H3 : Hid (HRow xD v acc ∧ Stay (· = r) w xD ∧ RRd xD r b s3 ∧ HC xD B #[.int .i64 d1, .int .i64 d2, .string ct] 25) := by
            obtain ⟨-, -, -, k4, k5, -⟩ := H1.out
            obtain ⟨k2, k3⟩ := H2.out
            exact ⟨(k2.stay st3 (fun k hk e => (k4 k hk).2 e)).stay sD (fun k hk e => by have := (k4 k hk).1; omega), (k3.andThen st3 (fun _ _ e => e)).andThen sD (fun i hi e => by omega), rd3.stay sD (by omega), bxD⟩
          clear hxD sD bxD bx3 rd3 st3 y2 z2 hl3 hs3 hct H2 HC2
          have wi : IntKind.i64.wrap ((i : Int) + 1) = ((i + 1 : Nat) : Int) := i64_in _ (by omega) (by omega)
          have hacc : (acc.length + 1) * 32 ≤ 140737488355328 := by have := HI.out.len; omega
          have HAC := Hid.mk hacc
          clear hacc
          obtain ⟨p3, hc3, -, -⟩ := H3.out.2.2.1
          have c3 : xD.cell? ⟨r, 2, none⟩ = some (.int .i64 s3.2) := HC.cell hc3 rfl
          clear hc3
          by_cases e3 : s3.2 = 0
          · rw [e3] at c3
            by_cases hi0 : i = 0
            · have HP : Hid (s3 = if (rdI b s).2.2 ≠ 0 then (rdI b s).2 else if okP acc.getLast? (rdI b s).1 then (rdI b s).2 else ((rdI b s).2.1, 50)) := Hid.mk (by
                have ha : acc = [] := List.eq_nil_of_length_eq_zero (by have := HI.out.len; omega)
                rw [HR.out, ha]
                simp [e3, okP])
              have hi0' : ¬ (0 : Int) < (i : Int) := by omega
              refine wp_region_held_drew (S := fun w' => w'.cell? ⟨r, 2, none⟩ = some (.int .i64 0)) (by kernel_rfl) ?_ (fun hHeld => ?_)
              · exact c3
              refine wpAnyH_take (i := 0) (oi := { dst := some 34, op := Op.move (Operand.tmp 0), type := 76, pos := "read.go:127", after := #[], guard := none }) (v := ?vb40) rfl (by kernel_rfl) (by kernel_rfl) (by kernel_rfl) (fun _ _ _ h => h) (Or.inl ⟨by rfl, ?hb40⟩) (by assumption) ?rb40
              case hb40 => (intro w0 hSw; (try dsimp only at hSw); go_simp; try (with_reducible rfl))
              simp only [Act.put, List.setIfInBounds_toArray, List.set_cons_zero, List.set_cons_succ]
              refine wpAnyH_take (i := 1) (oi := { dst := some 35, op := Op.nilCheck (Operand.tmp 34), type := 0, pos := "read.go:127", after := #[{ on := 0, ground := Ground.data }], guard := none }) (v := ?vb41) rfl (by kernel_rfl) (by kernel_rfl) (by kernel_rfl) (fun _ _ _ h => h) (Or.inl ⟨by rfl, ?hb41⟩) (by assumption) ?rb41
              case hb41 => (intro w0 hSw; (try dsimp only at hSw); go_simp; try (with_reducible rfl))
              simp only [Act.put, List.setIfInBounds_toArray, List.set_cons_zero, List.set_cons_succ]
              refine wpAnyH_take (i := 2) (oi := { dst := some 36, op := Op.fieldAddr 78 (Operand.tmp 35) 2, type := 0, pos := "read.go:127", after := #[{ on := 1, ground := Ground.data }], guard := none }) (v := ?vb42) rfl (by kernel_rfl) (by kernel_rfl) (by kernel_rfl) (fun _ _ _ h => h) (Or.inl ⟨by rfl, ?hb42⟩) (by assumption) ?rb42
              case hb42 => (intro w0 hSw; (try dsimp only at hSw); go_simp; try (with_reducible rfl))
              simp only [Act.put, List.setIfInBounds_toArray, List.set_cons_zero, List.set_cons_succ]
              refine wpAnyH_take (i := 3) (oi := { dst := some 37, op := Op.load 3 (Operand.tmp 36), type := 3, pos := "read.go:127", after := #[{ on := 2, ground := Ground.data }], guard := none }) (v := ?vb43) rfl (by kernel_rfl) (by kernel_rfl) (by kernel_rfl) (fun _ _ _ h => h) (Or.inl ⟨by rfl, ?hb43⟩) (by assumption) ?rb43
              case hb43 => (intro w0 hSw; (try dsimp only at hSw); go_simp; try (with_reducible rfl))
              simp only [Act.put, List.setIfInBounds_toArray, List.set_cons_zero, List.set_cons_succ]
              refine wpAnyH_take (i := 4) (oi := { dst := some 38, op := Op.binOp BinOp.eql 3 (Operand.tmp 37) (Operand.const (Value.int IntKind.i64 0)) 3, type := 4, pos := "read.go:127", after := #[{ on := 3, ground := Ground.data }], guard := none }) (v := ?vb44) rfl (by kernel_rfl) (by kernel_rfl) (by kernel_rfl) (fun _ _ _ h => h) (Or.inl ⟨by rfl, ?hb44⟩) (by assumption) ?rb44
              case hb44 => (intro w0 hSw; (try dsimp only at hSw); go_simp; try (with_reducible rfl))
              simp only [Act.put, List.setIfInBounds_toArray, List.set_cons_zero, List.set_cons_succ]
              refine wpAnyH_take (i := 5) (oi := { dst := some 39, op := Op.move (Operand.tmp 38), type := 4, pos := "read.go:127", after := #[{ on := 4, ground := Ground.data }], guard := none }) (v := ?vb45) rfl (by kernel_rfl) (by kernel_rfl) (by kernel_rfl) (fun _ _ _ h => h) (Or.inl ⟨by rfl, ?hb45⟩) (by assumption) ?rb45
              case hb45 => (intro w0 hSw; (try dsimp only at hSw); go_simp; try (with_reducible rfl))
              simp only [Act.put, List.setIfInBounds_toArray, List.set_cons_zero, List.set_cons_succ]
              refine wpAnyH_take (i := 6) (oi := { dst := some 40, op := Op.move (Operand.tmp 5), type := 3, pos := "read.go:127", after := #[{ on := 5, ground := Ground.guard }], guard := some (5, true) }) (v := ?vb46) rfl (by kernel_rfl) (by kernel_rfl) (by kernel_rfl) (fun _ _ _ h => h) (Or.inl ⟨by rfl, ?hb46⟩) (by assumption) ?rb46
              case hb46 => (intro w0 hSw; (try dsimp only at hSw); go_simp; try (with_reducible rfl))
              simp only [Act.put, List.setIfInBounds_toArray, List.set_cons_zero, List.set_cons_succ]
              refine wpAnyH_take (i := 7) (oi := { dst := some 41, op := Op.binOp BinOp.gtr 3 (Operand.tmp 40) (Operand.const (Value.int IntKind.i64 0)) 3, type := 4, pos := "read.go:127", after := #[{ on := 6, ground := Ground.data }, { on := 5, ground := Ground.guard }], guard := some (5, true) }) (v := ?vb47) rfl (by kernel_rfl) (by kernel_rfl) (by kernel_rfl) (fun _ _ _ h => h) (Or.inl ⟨by rfl, ?hb47⟩) (by assumption) ?rb47
              case hb47 => (intro w0 hSw; (try dsimp only at hSw); go_simp; try (with_reducible rfl))
              simp only [Act.put, List.setIfInBounds_toArray, List.set_cons_zero, List.set_cons_succ]
              refine wpAnyH_take (i := 8) (oi := { dst := some 42, op := Op.pick (Operand.tmp 39) (Operand.tmp 41) (Operand.const (Value.bool false)), type := 4, pos := "read.go:127", after := #[{ on := 5, ground := Ground.data }, { on := 7, ground := Ground.data }], guard := none }) (v := ?vb48) rfl (by kernel_rfl) (by kernel_rfl) (by kernel_rfl) (fun _ _ _ h => h) (Or.inl ⟨by rfl, ?hb48⟩) (by assumption) ?rb48
              case hb48 => (intro w0 hSw; (try dsimp only at hSw); go_simp; try (with_reducible rfl))
              simp only [Act.put, List.setIfInBounds_toArray, List.set_cons_zero, List.set_cons_succ]
              refine wpAnyH_take (i := 9) (oi := { dst := some 43, op := Op.move (Operand.tmp 42), type := 4, pos := "read.go:127", after := #[{ on := 8, ground := Ground.data }, { on := 5, ground := Ground.chain }], guard := none }) (v := ?vb49) rfl (by kernel_rfl) (by kernel_rfl) (by kernel_rfl) (fun _ _ _ h => h) (Or.inl ⟨by rfl, ?hb49⟩) (by assumption) ?rb49
              case hb49 => (intro w0 hSw; (try dsimp only at hSw); go_simp; try (with_reducible rfl))
              simp only [Act.put, List.setIfInBounds_toArray, List.set_cons_zero, List.set_cons_succ]
              refine wpAnyH_take (i := 10) (oi := { dst := some 44, op := Op.move (Operand.tmp 3), type := 26, pos := "read.go:127", after := #[{ on := 9, ground := Ground.guard }], guard := some (9, true) }) rfl (by kernel_rfl) (by kernel_rfl) (by kernel_rfl) (fun _ _ _ h => h) (Or.inr ⟨by rfl, rfl⟩) (by assumption) ?_
              simp only [Act.put, List.setIfInBounds_toArray, List.set_cons_zero, List.set_cons_succ]
              refine wpAnyH_take (i := 11) (oi := { dst := some 45, op := Op.move (Operand.tmp 5), type := 3, pos := "read.go:127", after := #[{ on := 9, ground := Ground.guard }], guard := some (9, true) }) rfl (by kernel_rfl) (by kernel_rfl) (by kernel_rfl) (fun _ _ _ h => h) (Or.inr ⟨by rfl, rfl⟩) (by assumption) ?_
              simp only [Act.put, List.setIfInBounds_toArray, List.set_cons_zero, List.set_cons_succ]
              refine wpAnyH_take (i := 12) (oi := { dst := some 46, op := Op.binOp BinOp.sub 3 (Operand.tmp 45) (Operand.const (Value.int IntKind.i64 1)) 3, type := 3, pos := "read.go:127", after := #[{ on := 11, ground := Ground.data }, { on := 9, ground := Ground.guard }], guard := some (9, true) }) rfl (by kernel_rfl) (by kernel_rfl) (by kernel_rfl) (fun _ _ _ h => h) (Or.inr ⟨by rfl, rfl⟩) (by assumption) ?_
              simp only [Act.put, List.setIfInBounds_toArray, List.set_cons_zero, List.set_cons_succ]
              refine wpAnyH_take (i := 13) (oi := { dst := some 47, op := Op.indexAddr 26 (Operand.tmp 44) (Operand.tmp 46), type := 0, pos := "read.go:127", after := #[{ on := 10, ground := Ground.data }, { on := 12, ground := Ground.data }, { on := 9, ground := Ground.guard }], guard := some (9, true) }) rfl (by kernel_rfl) (by kernel_rfl) (by kernel_rfl) (fun _ _ _ h => h) (Or.inr ⟨by rfl, rfl⟩) (by assumption) ?_
              simp only [Act.put, List.setIfInBounds_toArray, List.set_cons_zero, List.set_cons_succ]
              refine wpAnyH_take (i := 14) (oi := { dst := some 48, op := Op.load 25 (Operand.tmp 47), type := 25, pos := "read.go:127", after := #[{ on := 13, ground := Ground.data }, { on := 9, ground := Ground.guard }], guard := some (9, true) }) rfl (by kernel_rfl) (by kernel_rfl) (by kernel_rfl) (fun _ _ _ h => h) (Or.inr ⟨by rfl, rfl⟩) (by assumption) ?_
              simp only [Act.put, List.setIfInBounds_toArray, List.set_cons_zero, List.set_cons_succ]
              refine wpAnyH_take (i := 15) (oi := { dst := some 49, op := Op.load 25 (Operand.tmp 6), type := 25, pos := "read.go:127", after := #[{ on := 9, ground := Ground.guard }], guard := some (9, true) }) rfl (by kernel_rfl) (by kernel_rfl) (by kernel_rfl) (fun _ _ _ h => h) (Or.inr ⟨by rfl, rfl⟩) (by assumption) ?_
              simp only [Act.put, List.setIfInBounds_toArray, List.set_cons_zero, List.set_cons_succ]
              refine wpAnyH_take (i := 16) (oi := { dst := some 50, op := Op.call { callee := Callee.value (Operand.func 44), args := #[Operand.tmp 48, Operand.tmp 49], argTypes := #[25, 25] }, type := 4, pos := "read.go:127", after := #[{ on := 14, ground := Ground.data }, { on := 15, ground := Ground.data }, { on := 9, ground := Ground.chain }, { on := 9, ground := Ground.guard }], guard := some (9, true) }) rfl (by kernel_rfl) (by kernel_rfl) (by kernel_rfl) (fun _ _ _ h => h) (Or.inr ⟨by rfl, rfl⟩) (by assumption) ?_
              simp only [Act.put, List.setIfInBounds_toArray, List.set_cons_zero, List.set_cons_succ]
              refine wpAnyH_take (i := 17) (oi := { dst := some 51, op := Op.unOp UnOp.not 4 (Operand.tmp 50), type := 4, pos := "read.go:127", after := #[{ on := 16, ground := Ground.data }, { on := 9, ground := Ground.guard }], guard := some (9, true) }) rfl (by kernel_rfl) (by kernel_rfl) (by kernel_rfl) (fun _ _ _ h => h) (Or.inr ⟨by rfl, rfl⟩) (by assumption) ?_
              simp only [Act.put, List.setIfInBounds_toArray, List.set_cons_zero, List.set_cons_succ]
              refine wpAnyH_take (i := 18) (oi := { dst := some 52, op := Op.pick (Operand.tmp 43) (Operand.tmp 51) (Operand.const (Value.bool false)), type := 4, pos := "read.go:127", after := #[{ on := 9, ground := Ground.data }, { on := 17, ground := Ground.data }], guard := none }) (v := ?vb418) rfl (by kernel_rfl) (by kernel_rfl) (by kernel_rfl) (fun _ _ _ h => h) (Or.inl ⟨by rfl, ?hb418⟩) (by assumption) ?rb418
              case hb418 => (intro w0 hSw; (try dsimp only at hSw); go_simp; try (with_reducible rfl))
              simp only [Act.put, List.setIfInBounds_toArray, List.set_cons_zero, List.set_cons_succ]
              refine wpAnyH_done (by kernel_rfl) ?_ _
              have H3 : Hid (HRow xD.drew v acc ∧ Stay (· = r) w xD.drew ∧ RRd xD.drew r b s3 ∧ HC xD.drew B #[.int .i64 d1, .int .i64 d2, .string ct] 25) := ⟨H3.out.1.stay (F := fun _ => False) (.below (Below.refl _ xD).drew) (fun _ _ h => h), H3.out.2.1.andThen (.below (Below.refl _ xD).drew) (fun _ _ e => e), H3.out.2.2.1.below (Below.refl _ xD).drew, H3.out.2.2.2⟩
              obtain ⟨xz, hxz⟩ : ∃ xz, xz = xD.drew := ⟨_, rfl⟩
              rw [← hxz] at H3 ⊢
              clear hxz
              obtain ⟨v', w', hap, hr', sa, loc⟩ := hit_app1 xz acc v H3.out.1 ⟨d1, d2, ct⟩ HAC.out
              have HN2 : Hid (DI w w' r n b s0 (i + 1) v' (acc ++ [(rdI b s).1]) s3) := Hid.mk (HI.out.put h0 hlt (H3.out.2.2.1.stay sa (fun e => (H1.out.2.2.2.1 _ e).2 rfl)) (by rw [HR.out]; exact hr') (fun k hk => by rcases loc k hk with q | q; exact HI.out.own k q; exact Nat.le_trans H3.out.2.1.size q) (H3.out.2.1.andThen sa (fun k hk e => absurd (HI.out.own k e) (by omega))) HP.out)
              have y0 : xz.cell? ⟨B, 0, none⟩ = some (.int .i64 d1) := HC.cell H3.out.2.2.2 rfl
              have y1 : xz.cell? ⟨B, 1, none⟩ = some (.int .i64 d2) := HC.cell H3.out.2.2.2 rfl
              have y2 : xz.cell? ⟨B, 2, none⟩ = some (.string ct) := HC.cell H3.out.2.2.2 rfl
              clear hr' sa loc HP H3 HR H1 HAC
              go_wp2_with (first | (at_builtin; refine wpList_append_eq rfl _ _ 26 26 rfl _ _ _ _ rfl rfl hap ?_; clear hap) | fail)
              go_roundw
              case rel => exact ⟨_, i + 1, _, _, rfl, by go_num, HN2⟩
              case measure => simp [intOf]; omega
            · have hi0' : (0 : Int) < (i : Int) := by omega
              have hi0n : 0 < i := by omega
              obtain ⟨j, hj⟩ : ∃ j, i = j + 1 := ⟨i - 1, by omega⟩
              have hal := (HI.out.go h0).1
              have hjl : j < acc.length := by omega
              obtain ⟨lg, lc, hv, r0, r1, r2⟩ := H3.out.1.cells j hjl
              have hlast : acc.getLast? = some acc[j] := by rw [List.getLast?_eq_getElem?, List.getElem?_eq_getElem (by omega)]; congr 2; omega
              obtain ⟨pt, hpt⟩ : ∃ pt, pt = acc[j] := ⟨_, rfl⟩
              rw [← hpt] at r0 r1 r2 hlast
              have hfl := fun W => rordered_any pt ⟨d1, d2, ct⟩ W
              obtain ⟨fb, hfb⟩ : ∃ fb, fb = flB pt ⟨d1, d2, ct⟩ := ⟨_, rfl⟩
              rw [← hfb] at hfl
              have HP : Hid ((if (rdI b s).2.2 ≠ 0 then (rdI b s).2 else if okP acc.getLast? (rdI b s).1 then (rdI b s).2 else ((rdI b s).2.1, 50)) = if fb = true then s3 else (s3.1, 50)) := Hid.mk (by
                rw [HR.out, hlast]
                simp only [e3, okP, ← hfb]
                simp)
              have j0 : 0 ≤ (j : Int) := by omega
              have qq : Hid (IntKind.i64.wrap ((i : Int) - 1) = (j : Int) ∧ wrap64 ((i : Int) - 1) = (j : Int)) := ⟨i64_eq (by omega) (by omega), w64_eq (by omega) (by omega)⟩
              obtain ⟨a1, a2⟩ := qq.out
              have hjn : j < acc.length := hjl
              have hjc : (j : Int) < (acc.length : Int) := by omega
              obtain ⟨b0, b1, b2⟩ : xD.cell? ⟨B, 0, none⟩ = some (.int .i64 d1) ∧ xD.cell? ⟨B, 1, none⟩ = some (.int .i64 d2) ∧ xD.cell? ⟨B, 2, none⟩ = some (.string ct) := ⟨HC.cell H3.out.2.2.2 rfl, HC.cell H3.out.2.2.2 rfl, HC.cell H3.out.2.2.2 rfl⟩
              subst hv
              clear hal hlast hpt hfb qq hi0 hj
              obtain ⟨f0, f1, f2⟩ := pt
              simp only [htV] at hfl r0 r1 r2
              refine wp_region_held_drew (S := fun w' => w'.cell? ⟨r, 2, none⟩ = some (.int .i64 0) ∧ w'.cell? ⟨lg, j * 3, none⟩ = some (.int .i64 f0) ∧ w'.cell? ⟨lg, j * 3 + 1, none⟩ = some (.int .i64 f1) ∧ w'.cell? ⟨lg, j * 3 + 2, none⟩ = some (.string f2) ∧ w'.cell? ⟨B, 0, none⟩ = some (.int .i64 d1) ∧ w'.cell? ⟨B, 1, none⟩ = some (.int .i64 d2) ∧ w'.cell? ⟨B, 2, none⟩ = some (.string ct)) (by kernel_rfl) ?_ (fun hHeld => ?_)
              · exact ⟨c3, r0, r1, r2, b0, b1, b2⟩
              refine wpAnyH_take (i := 0) (oi := { dst := some 34, op := Op.move (Operand.tmp 0), type := 76, pos := "read.go:127", after := #[], guard := none }) (v := ?vc50) rfl (by kernel_rfl) (by kernel_rfl) (by kernel_rfl) (fun _ _ _ h => h) (Or.inl ⟨by rfl, ?hc50⟩) (by assumption) ?rc50
              case hc50 => (intro w0 hSw; (try dsimp only at hSw); go_simp; try (with_reducible rfl))
              simp only [Act.put, List.setIfInBounds_toArray, List.set_cons_zero, List.set_cons_succ]
              refine wpAnyH_take (i := 1) (oi := { dst := some 35, op := Op.nilCheck (Operand.tmp 34), type := 0, pos := "read.go:127", after := #[{ on := 0, ground := Ground.data }], guard := none }) (v := ?vc51) rfl (by kernel_rfl) (by kernel_rfl) (by kernel_rfl) (fun _ _ _ h => h) (Or.inl ⟨by rfl, ?hc51⟩) (by assumption) ?rc51
              case hc51 => (intro w0 hSw; (try dsimp only at hSw); go_simp; try (with_reducible rfl))
              simp only [Act.put, List.setIfInBounds_toArray, List.set_cons_zero, List.set_cons_succ]
              refine wpAnyH_take (i := 2) (oi := { dst := some 36, op := Op.fieldAddr 78 (Operand.tmp 35) 2, type := 0, pos := "read.go:127", after := #[{ on := 1, ground := Ground.data }], guard := none }) (v := ?vc52) rfl (by kernel_rfl) (by kernel_rfl) (by kernel_rfl) (fun _ _ _ h => h) (Or.inl ⟨by rfl, ?hc52⟩) (by assumption) ?rc52
              case hc52 => (intro w0 hSw; (try dsimp only at hSw); go_simp; try (with_reducible rfl))
              simp only [Act.put, List.setIfInBounds_toArray, List.set_cons_zero, List.set_cons_succ]
              refine wpAnyH_take (i := 3) (oi := { dst := some 37, op := Op.load 3 (Operand.tmp 36), type := 3, pos := "read.go:127", after := #[{ on := 2, ground := Ground.data }], guard := none }) (v := ?vc53) rfl (by kernel_rfl) (by kernel_rfl) (by kernel_rfl) (fun _ _ _ h => h) (Or.inl ⟨by rfl, ?hc53⟩) (by assumption) ?rc53
              case hc53 => (intro w0 hSw; (try dsimp only at hSw); go_simp; try (with_reducible rfl))
              simp only [Act.put, List.setIfInBounds_toArray, List.set_cons_zero, List.set_cons_succ]
              refine wpAnyH_take (i := 4) (oi := { dst := some 38, op := Op.binOp BinOp.eql 3 (Operand.tmp 37) (Operand.const (Value.int IntKind.i64 0)) 3, type := 4, pos := "read.go:127", after := #[{ on := 3, ground := Ground.data }], guard := none }) (v := ?vc54) rfl (by kernel_rfl) (by kernel_rfl) (by kernel_rfl) (fun _ _ _ h => h) (Or.inl ⟨by rfl, ?hc54⟩) (by assumption) ?rc54
              case hc54 => (intro w0 hSw; (try dsimp only at hSw); go_simp; try (with_reducible rfl))
              simp only [Act.put, List.setIfInBounds_toArray, List.set_cons_zero, List.set_cons_succ]
              refine wpAnyH_take (i := 5) (oi := { dst := some 39, op := Op.move (Operand.tmp 38), type := 4, pos := "read.go:127", after := #[{ on := 4, ground := Ground.data }], guard := none }) (v := ?vc55) rfl (by kernel_rfl) (by kernel_rfl) (by kernel_rfl) (fun _ _ _ h => h) (Or.inl ⟨by rfl, ?hc55⟩) (by assumption) ?rc55
              case hc55 => (intro w0 hSw; (try dsimp only at hSw); go_simp; try (with_reducible rfl))
              simp only [Act.put, List.setIfInBounds_toArray, List.set_cons_zero, List.set_cons_succ]
              refine wpAnyH_take (i := 6) (oi := { dst := some 40, op := Op.move (Operand.tmp 5), type := 3, pos := "read.go:127", after := #[{ on := 5, ground := Ground.guard }], guard := some (5, true) }) (v := ?vc56) rfl (by kernel_rfl) (by kernel_rfl) (by kernel_rfl) (fun _ _ _ h => h) (Or.inl ⟨by rfl, ?hc56⟩) (by assumption) ?rc56
              case hc56 => (intro w0 hSw; (try dsimp only at hSw); go_simp; try (with_reducible rfl))
              simp only [Act.put, List.setIfInBounds_toArray, List.set_cons_zero, List.set_cons_succ]
              refine wpAnyH_take (i := 7) (oi := { dst := some 41, op := Op.binOp BinOp.gtr 3 (Operand.tmp 40) (Operand.const (Value.int IntKind.i64 0)) 3, type := 4, pos := "read.go:127", after := #[{ on := 6, ground := Ground.data }, { on := 5, ground := Ground.guard }], guard := some (5, true) }) (v := ?vc57) rfl (by kernel_rfl) (by kernel_rfl) (by kernel_rfl) (fun _ _ _ h => h) (Or.inl ⟨by rfl, ?hc57⟩) (by assumption) ?rc57
              case hc57 => (intro w0 hSw; (try dsimp only at hSw); go_simp; try (with_reducible rfl))
              simp only [Act.put, List.setIfInBounds_toArray, List.set_cons_zero, List.set_cons_succ]
              refine wpAnyH_take (i := 8) (oi := { dst := some 42, op := Op.pick (Operand.tmp 39) (Operand.tmp 41) (Operand.const (Value.bool false)), type := 4, pos := "read.go:127", after := #[{ on := 5, ground := Ground.data }, { on := 7, ground := Ground.data }], guard := none }) (v := ?vc58) rfl (by kernel_rfl) (by kernel_rfl) (by kernel_rfl) (fun _ _ _ h => h) (Or.inl ⟨by rfl, ?hc58⟩) (by assumption) ?rc58
              case hc58 => (intro w0 hSw; (try dsimp only at hSw); go_simp; try (with_reducible rfl))
              simp only [Act.put, List.setIfInBounds_toArray, List.set_cons_zero, List.set_cons_succ]
              refine wpAnyH_take (i := 9) (oi := { dst := some 43, op := Op.move (Operand.tmp 42), type := 4, pos := "read.go:127", after := #[{ on := 8, ground := Ground.data }, { on := 5, ground := Ground.chain }], guard := none }) (v := ?vc59) rfl (by kernel_rfl) (by kernel_rfl) (by kernel_rfl) (fun _ _ _ h => h) (Or.inl ⟨by rfl, ?hc59⟩) (by assumption) ?rc59
              case hc59 => (intro w0 hSw; (try dsimp only at hSw); go_simp; try (with_reducible rfl))
              simp only [Act.put, List.setIfInBounds_toArray, List.set_cons_zero, List.set_cons_succ]
              refine wpAnyH_take (i := 10) (oi := { dst := some 44, op := Op.move (Operand.tmp 3), type := 26, pos := "read.go:127", after := #[{ on := 9, ground := Ground.guard }], guard := some (9, true) }) (v := ?vc510) rfl (by kernel_rfl) (by kernel_rfl) (by kernel_rfl) (fun _ _ _ h => h) (Or.inl ⟨by rfl, ?hc510⟩) (by assumption) ?rc510
              case hc510 => (intro w0 hSw; (try dsimp only at hSw); go_simp; try (with_reducible rfl))
              simp only [Act.put, List.setIfInBounds_toArray, List.set_cons_zero, List.set_cons_succ]
              refine wpAnyH_take (i := 11) (oi := { dst := some 45, op := Op.move (Operand.tmp 5), type := 3, pos := "read.go:127", after := #[{ on := 9, ground := Ground.guard }], guard := some (9, true) }) (v := ?vc511) rfl (by kernel_rfl) (by kernel_rfl) (by kernel_rfl) (fun _ _ _ h => h) (Or.inl ⟨by rfl, ?hc511⟩) (by assumption) ?rc511
              case hc511 => (intro w0 hSw; (try dsimp only at hSw); go_simp; try (with_reducible rfl))
              simp only [Act.put, List.setIfInBounds_toArray, List.set_cons_zero, List.set_cons_succ]
              refine wpAnyH_take (i := 12) (oi := { dst := some 46, op := Op.binOp BinOp.sub 3 (Operand.tmp 45) (Operand.const (Value.int IntKind.i64 1)) 3, type := 3, pos := "read.go:127", after := #[{ on := 11, ground := Ground.data }, { on := 9, ground := Ground.guard }], guard := some (9, true) }) (v := ?vc512) rfl (by kernel_rfl) (by kernel_rfl) (by kernel_rfl) (fun _ _ _ h => h) (Or.inl ⟨by rfl, ?hc512⟩) (by assumption) ?rc512
              case hc512 => (intro w0 hSw; (try dsimp only at hSw); go_simp; try (with_reducible rfl))
              simp only [Act.put, List.setIfInBounds_toArray, List.set_cons_zero, List.set_cons_succ]
              refine wpAnyH_take (i := 13) (oi := { dst := some 47, op := Op.indexAddr 26 (Operand.tmp 44) (Operand.tmp 46), type := 0, pos := "read.go:127", after := #[{ on := 10, ground := Ground.data }, { on := 12, ground := Ground.data }, { on := 9, ground := Ground.guard }], guard := some (9, true) }) (v := ?vc513) rfl (by kernel_rfl) (by kernel_rfl) (by kernel_rfl) (fun _ _ _ h => h) (Or.inl ⟨by rfl, ?hc513⟩) (by assumption) ?rc513
              case hc513 => (intro w0 hSw; (try dsimp only at hSw); go_simp; try (with_reducible rfl))
              simp only [Act.put, List.setIfInBounds_toArray, List.set_cons_zero, List.set_cons_succ]
              refine wpAnyH_take (i := 14) (oi := { dst := some 48, op := Op.load 25 (Operand.tmp 47), type := 25, pos := "read.go:127", after := #[{ on := 13, ground := Ground.data }, { on := 9, ground := Ground.guard }], guard := some (9, true) }) (v := ?vc514) rfl (by kernel_rfl) (by kernel_rfl) (by kernel_rfl) (fun _ _ _ h => h) (Or.inl ⟨by rfl, ?hc514⟩) (by assumption) ?rc514
              case hc514 => (intro w0 hSw; (try dsimp only at hSw); go_simp; try (with_reducible rfl))
              simp only [Act.put, List.setIfInBounds_toArray, List.set_cons_zero, List.set_cons_succ]
              refine wpAnyH_take (i := 15) (oi := { dst := some 49, op := Op.load 25 (Operand.tmp 6), type := 25, pos := "read.go:127", after := #[{ on := 9, ground := Ground.guard }], guard := some (9, true) }) (v := ?vc515) rfl (by kernel_rfl) (by kernel_rfl) (by kernel_rfl) (fun _ _ _ h => h) (Or.inl ⟨by rfl, ?hc515⟩) (by assumption) ?rc515
              case hc515 => (intro w0 hSw; (try dsimp only at hSw); go_simp; try (with_reducible rfl))
              simp only [Act.put, List.setIfInBounds_toArray, List.set_cons_zero, List.set_cons_succ]
              refine wpAnyH_ready (rs := [16]) (by kernel_rfl) (by simp) ?_
              refine AllReadyH.cons rfl (fun K hK => ?_) AllReadyH.nil
              go_simp
              go_wp2_with (go_at_call 44; refine (hfl _).mono ?_; clear hfl; rintro e x8 ⟨rfl, b8⟩; have b8' := below_d b8; have H8 : Hid (HRow x8 (.slice (some ⟨lg, 0, none⟩) acc.length lc) acc ∧ Stay (· = r) w x8 ∧ RRd x8 r b s3 ∧ HC x8 B #[.int .i64 d1, .int .i64 d2, .string ct] 25) := ⟨H3.out.1.stay (F := fun _ => False) (.below b8') (fun _ _ h => h), H3.out.2.1.andThen (.below b8') (fun _ _ e => e), H3.out.2.2.1.below b8', H3.out.2.2.2.below b8'⟩; have k8 := And.intro (cell_below b8' c3) (And.intro (cell_below b8' r0) (And.intro (cell_below b8' r1) (And.intro (cell_below b8' r2) (And.intro (cell_below b8' b0) (And.intro (cell_below b8' b1) (cell_below b8' b2)))))); clear b8 b8' H3)
              refine hK.out _ _ ?_ (fun hHeld => ?_)
              · exact k8
              clear hK K
              refine wpAnyH_take (i := 17) (oi := { dst := some 51, op := Op.unOp UnOp.not 4 (Operand.tmp 50), type := 4, pos := "read.go:127", after := #[{ on := 16, ground := Ground.data }, { on := 9, ground := Ground.guard }], guard := some (9, true) }) (v := ?vc517) rfl (by kernel_rfl) (by kernel_rfl) (by kernel_rfl) (fun _ _ _ h => h) (Or.inl ⟨by rfl, ?hc517⟩) (by assumption) ?rc517
              case hc517 => (intro w0 hSw; (try dsimp only at hSw); go_simp; try (with_reducible rfl))
              simp only [Act.put, List.setIfInBounds_toArray, List.set_cons_zero, List.set_cons_succ]
              refine wpAnyH_take (i := 18) (oi := { dst := some 52, op := Op.pick (Operand.tmp 43) (Operand.tmp 51) (Operand.const (Value.bool false)), type := 4, pos := "read.go:127", after := #[{ on := 9, ground := Ground.data }, { on := 17, ground := Ground.data }], guard := none }) (v := ?vc518) rfl (by kernel_rfl) (by kernel_rfl) (by kernel_rfl) (fun _ _ _ h => h) (Or.inl ⟨by rfl, ?hc518⟩) (by assumption) ?rc518
              case hc518 => (intro w0 hSw; (try dsimp only at hSw); go_simp; try (with_reducible rfl))
              simp only [Act.put, List.setIfInBounds_toArray, List.set_cons_zero, List.set_cons_succ]
              refine wpAnyH_done (by kernel_rfl) ?_ _
              cases fb with
              | true =>
                have HP : Hid (s3 = if (rdI b s).2.2 ≠ 0 then (rdI b s).2 else if okP acc.getLast? (rdI b s).1 then (rdI b s).2 else ((rdI b s).2.1, 50)) := Hid.mk (by rw [HP.out]; simp)
                have H3 := H8
                obtain ⟨v', w', hap, hr', sa, loc⟩ := hit_app1 x8 acc (.slice (some ⟨lg, 0, none⟩) acc.length lc) H3.out.1 ⟨d1, d2, ct⟩ HAC.out
                have HN2 : Hid (DI w w' r n b s0 (i + 1) v' (acc ++ [(rdI b s).1]) s3) := Hid.mk (HI.out.put h0 hlt (H3.out.2.2.1.stay sa (fun e => (H1.out.2.2.2.1 _ e).2 rfl)) (by rw [HR.out]; exact hr') (fun k hk => by rcases loc k hk with q | q; exact HI.out.own k q; exact Nat.le_trans H3.out.2.1.size q) (H3.out.2.1.andThen sa (fun k hk e => absurd (HI.out.own k e) (by omega))) HP.out)
                have y0 : x8.cell? ⟨B, 0, none⟩ = some (.int .i64 d1) := HC.cell H3.out.2.2.2 rfl
                have y1 : x8.cell? ⟨B, 1, none⟩ = some (.int .i64 d2) := HC.cell H3.out.2.2.2 rfl
                have y2 : x8.cell? ⟨B, 2, none⟩ = some (.string ct) := HC.cell H3.out.2.2.2 rfl
                clear hr' sa loc HP H3 HR H1 HAC
                go_wp2_with (first | (at_builtin; refine wpList_append_eq rfl _ _ 26 26 rfl _ _ _ _ rfl rfl hap ?_; clear hap) | fail)
                go_roundw
                case rel => exact ⟨_, i + 1, _, _, rfl, by go_num, HN2⟩
                case measure => simp [intOf]; omega
              | false =>
                have HP : Hid ((s3.1, (50 : Int)) = if (rdI b s).2.2 ≠ 0 then (rdI b s).2 else if okP acc.getLast? (rdI b s).1 then (rdI b s).2 else ((rdI b s).2.1, 50)) := Hid.mk (by rw [HP.out]; simp)
                obtain ⟨p8, hc8, hp8, hq8⟩ := H8.out.2.2.1
                have hR := rrefuse_any b p8 s3.2 50 x8 r hc8
                rw [if_pos e3] at hR
                have HP8 := Hid.mk (And.intro hp8 hq8)
                clear hc8 hp8 hq8
                go_upto_region 13 with (go_at_call 51; refine hR.mono ?_; clear hR; rintro e x9 ⟨rfl, hc9, st9⟩)
                have H3 : Hid (HRow x9 (.slice (some ⟨lg, 0, none⟩) acc.length lc) acc ∧ Stay (· = r) w x9 ∧ RRd x9 r b (s3.1, 50) ∧ HC x9 B #[.int .i64 d1, .int .i64 d2, .string ct] 25) := by
                  obtain ⟨k1, k2, k3, k4⟩ := H8.out
                  exact ⟨k1.stay st9 (fun k hk e => (H1.out.2.2.2.1 k hk).2 e), k2.andThen st9 (fun _ _ e => e), ⟨p8, hc9, HP8.out.1, fun e => by cases e⟩, k4.stay st9 (by omega)⟩
                clear hc9 st9 H8
                obtain ⟨v', w', hap, hr', sa, loc⟩ := hit_app1 x9 acc (.slice (some ⟨lg, 0, none⟩) acc.length lc) H3.out.1 ⟨d1, d2, ct⟩ HAC.out
                have HN2 : Hid (DI w w' r n b s0 (i + 1) v' (acc ++ [(rdI b s).1]) (s3.1, 50)) := Hid.mk (HI.out.put h0 hlt (H3.out.2.2.1.stay sa (fun e => (H1.out.2.2.2.1 _ e).2 rfl)) (by rw [HR.out]; exact hr') (fun k hk => by rcases loc k hk with q | q; exact HI.out.own k q; exact Nat.le_trans H3.out.2.1.size q) (H3.out.2.1.andThen sa (fun k hk e => absurd (HI.out.own k e) (by omega))) HP.out)
                have y0 : x9.cell? ⟨B, 0, none⟩ = some (.int .i64 d1) := HC.cell H3.out.2.2.2 rfl
                have y1 : x9.cell? ⟨B, 1, none⟩ = some (.int .i64 d2) := HC.cell H3.out.2.2.2 rfl
                have y2 : x9.cell? ⟨B, 2, none⟩ = some (.string ct) := HC.cell H3.out.2.2.2 rfl
                clear hr' sa loc HP H3 HR H1 HAC
                go_wp2_with (first | (at_builtin; refine wpList_append_eq rfl _ _ 26 26 rfl _ _ _ _ rfl rfl hap ?_; clear hap) | fail)
                go_roundw
                case rel => exact ⟨_, i + 1, _, _, rfl, by go_num, HN2⟩
                case measure => simp [intOf]; omega
          · have e3b : (s3.2 == 0) = false := by simpa using e3
            have HP : Hid (s3 = if (rdI b s).2.2 ≠ 0 then (rdI b s).2 else if okP acc.getLast? (rdI b s).1 then (rdI b s).2 else ((rdI b s).2.1, 50)) := Hid.mk (by rw [HR.out]; simp only []; rw [if_pos e3])
            refine wp_region_held_drew (S := fun w' => w'.cell? ⟨r, 2, none⟩ = some (.int .i64 s3.2)) (by kernel_rfl) ?_ (fun hHeld => ?_)
            · exact c3
            refine wpAnyH_take (i := 0) (oi := { dst := some 34, op := Op.move (Operand.tmp 0), type := 76, pos := "read.go:127", after := #[], guard := none }) (v := ?va60) rfl (by kernel_rfl) (by kernel_rfl) (by kernel_rfl) (fun _ _ _ h => h) (Or.inl ⟨by rfl, ?ha60⟩) (by assumption) ?ra60
            case ha60 => (intro w0 hSw; (try dsimp only at hSw); go_simp; try (with_reducible rfl))
            simp only [Act.put, List.setIfInBounds_toArray, List.set_cons_zero, List.set_cons_succ]
            refine wpAnyH_take (i := 1) (oi := { dst := some 35, op := Op.nilCheck (Operand.tmp 34), type := 0, pos := "read.go:127", after := #[{ on := 0, ground := Ground.data }], guard := none }) (v := ?va61) rfl (by kernel_rfl) (by kernel_rfl) (by kernel_rfl) (fun _ _ _ h => h) (Or.inl ⟨by rfl, ?ha61⟩) (by assumption) ?ra61
            case ha61 => (intro w0 hSw; (try dsimp only at hSw); go_simp; try (with_reducible rfl))
            simp only [Act.put, List.setIfInBounds_toArray, List.set_cons_zero, List.set_cons_succ]
            refine wpAnyH_take (i := 2) (oi := { dst := some 36, op := Op.fieldAddr 78 (Operand.tmp 35) 2, type := 0, pos := "read.go:127", after := #[{ on := 1, ground := Ground.data }], guard := none }) (v := ?va62) rfl (by kernel_rfl) (by kernel_rfl) (by kernel_rfl) (fun _ _ _ h => h) (Or.inl ⟨by rfl, ?ha62⟩) (by assumption) ?ra62
            case ha62 => (intro w0 hSw; (try dsimp only at hSw); go_simp; try (with_reducible rfl))
            simp only [Act.put, List.setIfInBounds_toArray, List.set_cons_zero, List.set_cons_succ]
            refine wpAnyH_take (i := 3) (oi := { dst := some 37, op := Op.load 3 (Operand.tmp 36), type := 3, pos := "read.go:127", after := #[{ on := 2, ground := Ground.data }], guard := none }) (v := ?va63) rfl (by kernel_rfl) (by kernel_rfl) (by kernel_rfl) (fun _ _ _ h => h) (Or.inl ⟨by rfl, ?ha63⟩) (by assumption) ?ra63
            case ha63 => (intro w0 hSw; (try dsimp only at hSw); go_simp; try (with_reducible rfl))
            simp only [Act.put, List.setIfInBounds_toArray, List.set_cons_zero, List.set_cons_succ]
            refine wpAnyH_take (i := 4) (oi := { dst := some 38, op := Op.binOp BinOp.eql 3 (Operand.tmp 37) (Operand.const (Value.int IntKind.i64 0)) 3, type := 4, pos := "read.go:127", after := #[{ on := 3, ground := Ground.data }], guard := none }) (v := ?va64) rfl (by kernel_rfl) (by kernel_rfl) (by kernel_rfl) (fun _ _ _ h => h) (Or.inl ⟨by rfl, ?ha64⟩) (by assumption) ?ra64
            case ha64 => (intro w0 hSw; (try dsimp only at hSw); go_simp; try (with_reducible rfl))
            simp only [Act.put, List.setIfInBounds_toArray, List.set_cons_zero, List.set_cons_succ]
            refine wpAnyH_take (i := 5) (oi := { dst := some 39, op := Op.move (Operand.tmp 38), type := 4, pos := "read.go:127", after := #[{ on := 4, ground := Ground.data }], guard := none }) (v := ?va65) rfl (by kernel_rfl) (by kernel_rfl) (by kernel_rfl) (fun _ _ _ h => h) (Or.inl ⟨by rfl, ?ha65⟩) (by assumption) ?ra65
            case ha65 => (intro w0 hSw; (try dsimp only at hSw); go_simp; try (with_reducible rfl))
            simp only [Act.put, List.setIfInBounds_toArray, List.set_cons_zero, List.set_cons_succ]
            refine wpAnyH_take (i := 6) (oi := { dst := some 40, op := Op.move (Operand.tmp 5), type := 3, pos := "read.go:127", after := #[{ on := 5, ground := Ground.guard }], guard := some (5, true) }) rfl (by kernel_rfl) (by kernel_rfl) (by kernel_rfl) (fun _ _ _ h => h) (Or.inr ⟨by rfl, rfl⟩) (by assumption) ?_
            simp only [Act.put, List.setIfInBounds_toArray, List.set_cons_zero, List.set_cons_succ]
            refine wpAnyH_take (i := 7) (oi := { dst := some 41, op := Op.binOp BinOp.gtr 3 (Operand.tmp 40) (Operand.const (Value.int IntKind.i64 0)) 3, type := 4, pos := "read.go:127", after := #[{ on := 6, ground := Ground.data }, { on := 5, ground := Ground.guard }], guard := some (5, true) }) rfl (by kernel_rfl) (by kernel_rfl) (by kernel_rfl) (fun _ _ _ h => h) (Or.inr ⟨by rfl, rfl⟩) (by assumption) ?_
            simp only [Act.put, List.setIfInBounds_toArray, List.set_cons_zero, List.set_cons_succ]
            refine wpAnyH_take (i := 8) (oi := { dst := some 42, op := Op.pick (Operand.tmp 39) (Operand.tmp 41) (Operand.const (Value.bool false)), type := 4, pos := "read.go:127", after := #[{ on := 5, ground := Ground.data }, { on := 7, ground := Ground.data }], guard := none }) (v := ?va68) rfl (by kernel_rfl) (by kernel_rfl) (by kernel_rfl) (fun _ _ _ h => h) (Or.inl ⟨by rfl, ?ha68⟩) (by assumption) ?ra68
            case ha68 => (intro w0 hSw; (try dsimp only at hSw); go_simp; try (with_reducible rfl))
            simp only [Act.put, List.setIfInBounds_toArray, List.set_cons_zero, List.set_cons_succ]
            refine wpAnyH_take (i := 9) (oi := { dst := some 43, op := Op.move (Operand.tmp 42), type := 4, pos := "read.go:127", after := #[{ on := 8, ground := Ground.data }, { on := 5, ground := Ground.chain }], guard := none }) (v := ?va69) rfl (by kernel_rfl) (by kernel_rfl) (by kernel_rfl) (fun _ _ _ h => h) (Or.inl ⟨by rfl, ?ha69⟩) (by assumption) ?ra69
            case ha69 => (intro w0 hSw; (try dsimp only at hSw); go_simp; try (with_reducible rfl))
            simp only [Act.put, List.setIfInBounds_toArray, List.set_cons_zero, List.set_cons_succ]
            refine wpAnyH_take (i := 10) (oi := { dst := some 44, op := Op.move (Operand.tmp 3), type := 26, pos := "read.go:127", after := #[{ on := 9, ground := Ground.guard }], guard := some (9, true) }) rfl (by kernel_rfl) (by kernel_rfl) (by kernel_rfl) (fun _ _ _ h => h) (Or.inr ⟨by rfl, rfl⟩) (by assumption) ?_
            simp only [Act.put, List.setIfInBounds_toArray, List.set_cons_zero, List.set_cons_succ]
            refine wpAnyH_take (i := 11) (oi := { dst := some 45, op := Op.move (Operand.tmp 5), type := 3, pos := "read.go:127", after := #[{ on := 9, ground := Ground.guard }], guard := some (9, true) }) rfl (by kernel_rfl) (by kernel_rfl) (by kernel_rfl) (fun _ _ _ h => h) (Or.inr ⟨by rfl, rfl⟩) (by assumption) ?_
            simp only [Act.put, List.setIfInBounds_toArray, List.set_cons_zero, List.set_cons_succ]
            refine wpAnyH_take (i := 12) (oi := { dst := some 46, op := Op.binOp BinOp.sub 3 (Operand.tmp 45) (Operand.const (Value.int IntKind.i64 1)) 3, type := 3, pos := "read.go:127", after := #[{ on := 11, ground := Ground.data }, { on := 9, ground := Ground.guard }], guard := some (9, true) }) rfl (by kernel_rfl) (by kernel_rfl) (by kernel_rfl) (fun _ _ _ h => h) (Or.inr ⟨by rfl, rfl⟩) (by assumption) ?_
            simp only [Act.put, List.setIfInBounds_toArray, List.set_cons_zero, List.set_cons_succ]
            refine wpAnyH_take (i := 13) (oi := { dst := some 47, op := Op.indexAddr 26 (Operand.tmp 44) (Operand.tmp 46), type := 0, pos := "read.go:127", after := #[{ on := 10, ground := Ground.data }, { on := 12, ground := Ground.data }, { on := 9, ground := Ground.guard }], guard := some (9, true) }) rfl (by kernel_rfl) (by kernel_rfl) (by kernel_rfl) (fun _ _ _ h => h) (Or.inr ⟨by rfl, rfl⟩) (by assumption) ?_
            simp only [Act.put, List.setIfInBounds_toArray, List.set_cons_zero, List.set_cons_succ]
            refine wpAnyH_take (i := 14) (oi := { dst := some 48, op := Op.load 25 (Operand.tmp 47), type := 25, pos := "read.go:127", after := #[{ on := 13, ground := Ground.data }, { on := 9, ground := Ground.guard }], guard := some (9, true) }) rfl (by kernel_rfl) (by kernel_rfl) (by kernel_rfl) (fun _ _ _ h => h) (Or.inr ⟨by rfl, rfl⟩) (by assumption) ?_
            simp only [Act.put, List.setIfInBounds_toArray, List.set_cons_zero, List.set_cons_succ]
            refine wpAnyH_take (i := 15) (oi := { dst := some 49, op := Op.load 25 (Operand.tmp 6), type := 25, pos := "read.go:127", after := #[{ on := 9, ground := Ground.guard }], guard := some (9, true) }) rfl (by kernel_rfl) (by kernel_rfl) (by kernel_rfl) (fun _ _ _ h => h) (Or.inr ⟨by rfl, rfl⟩) (by assumption) ?_
            simp only [Act.put, List.setIfInBounds_toArray, List.set_cons_zero, List.set_cons_succ]
            refine wpAnyH_take (i := 16) (oi := { dst := some 50, op := Op.call { callee := Callee.value (Operand.func 44), args := #[Operand.tmp 48, Operand.tmp 49], argTypes := #[25, 25] }, type := 4, pos := "read.go:127", after := #[{ on := 14, ground := Ground.data }, { on := 15, ground := Ground.data }, { on := 9, ground := Ground.chain }, { on := 9, ground := Ground.guard }], guard := some (9, true) }) rfl (by kernel_rfl) (by kernel_rfl) (by kernel_rfl) (fun _ _ _ h => h) (Or.inr ⟨by rfl, rfl⟩) (by assumption) ?_
            simp only [Act.put, List.setIfInBounds_toArray, List.set_cons_zero, List.set_cons_succ]
            refine wpAnyH_take (i := 17) (oi := { dst := some 51, op := Op.unOp UnOp.not 4 (Operand.tmp 50), type := 4, pos := "read.go:127", after := #[{ on := 16, ground := Ground.data }, { on := 9, ground := Ground.guard }], guard := some (9, true) }) rfl (by kernel_rfl) (by kernel_rfl) (by kernel_rfl) (fun _ _ _ h => h) (Or.inr ⟨by rfl, rfl⟩) (by assumption) ?_
            simp only [Act.put, List.setIfInBounds_toArray, List.set_cons_zero, List.set_cons_succ]
            refine wpAnyH_take (i := 18) (oi := { dst := some 52, op := Op.pick (Operand.tmp 43) (Operand.tmp 51) (Operand.const (Value.bool false)), type := 4, pos := "read.go:127", after := #[{ on := 9, ground := Ground.data }, { on := 17, ground := Ground.data }], guard := none }) (v := ?va618) rfl (by kernel_rfl) (by kernel_rfl) (by kernel_rfl) (fun _ _ _ h => h) (Or.inl ⟨by rfl, ?ha618⟩) (by assumption) ?ra618
            case ha618 => (intro w0 hSw; (try dsimp only at hSw); go_simp; try (with_reducible rfl))
            simp only [Act.put, List.setIfInBounds_toArray, List.set_cons_zero, List.set_cons_succ]
            refine wpAnyH_done (by kernel_rfl) ?_ _
            have H3 : Hid (HRow xD.drew v acc ∧ Stay (· = r) w xD.drew ∧ RRd xD.drew r b s3 ∧ HC xD.drew B #[.int .i64 d1, .int .i64 d2, .string ct] 25) := ⟨H3.out.1.stay (F := fun _ => False) (.below (Below.refl _ xD).drew) (fun _ _ h => h), H3.out.2.1.andThen (.below (Below.refl _ xD).drew) (fun _ _ e => e), H3.out.2.2.1.below (Below.refl _ xD).drew, H3.out.2.2.2⟩
            obtain ⟨xz, hxz⟩ : ∃ xz, xz = xD.drew := ⟨_, rfl⟩
            rw [← hxz] at H3 ⊢
            clear hxz
            obtain ⟨v', w', hap, hr', sa, loc⟩ := hit_app1 xz acc v H3.out.1 ⟨d1, d2, ct⟩ HAC.out
            have HN2 : Hid (DI w w' r n b s0 (i + 1) v' (acc ++ [(rdI b s).1]) s3) := Hid.mk (HI.out.put h0 hlt (H3.out.2.2.1.stay sa (fun e => (H1.out.2.2.2.1 _ e).2 rfl)) (by rw [HR.out]; exact hr') (fun k hk => by rcases loc k hk with q | q; exact HI.out.own k q; exact Nat.le_trans H3.out.2.1.size q) (H3.out.2.1.andThen sa (fun k hk e => absurd (HI.out.own k e) (by omega))) HP.out)
            have y0 : xz.cell? ⟨B, 0, none⟩ = some (.int .i64 d1) := HC.cell H3.out.2.2.2 rfl
            have y1 : xz.cell? ⟨B, 1, none⟩ = some (.int .i64 d2) := HC.cell H3.out.2.2.2 rfl
            have y2 : xz.cell? ⟨B, 2, none⟩ = some (.string ct) := HC.cell H3.out.2.2.2 rfl
            clear hr' sa loc HP H3 HR H1 HAC
            go_wp2_with (first | (at_builtin; refine wpList_append_eq rfl _ _ 26 26 rfl _ _ _ _ rfl rfl hap ?_; clear hap) | fail)
            go_roundw
            case rel => exact ⟨_, i + 1, _, _, rfl, by go_num, HN2⟩
            case measure => simp [intOf]; omega
        · have h0b : (s.2 == 0) = false := by simpa using h0
          have HF := Hid.mk (HI.out.fin (fun e => absurd e h0))
          obtain ⟨a, c, ev, -⟩ := slice_form HI.out.row
          clear HI hcr hps
          go_wp2
          go_ret
          exact ⟨_, rfl, HF.out⟩
      · have hlt' : ¬ (i : Int) < (n : Int) := by omega
        have HF := Hid.mk (HI.out.fin (fun _ => hlt))
        clear HI hcr hps
        go_wp2
        go_ret
        exact ⟨_, rfl, HF.out⟩
end Go.Proofs.Ytjdknijjkjmafaa
