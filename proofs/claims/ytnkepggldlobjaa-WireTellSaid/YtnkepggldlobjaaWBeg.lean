/-
  DERIVED. The laws' begun.
-/
import Derived.Test.YtnkepggldlobjaaWSame
set_option linter.unusedVariables false
set_option linter.unusedSimpArgs false
namespace Go.Proofs.Ytnkepggldlobjaa
open Go.RowKit Go.Proofs.SealMath
theorem bg1 : askA ⟨4, 0, ⟨#[97, 98]⟩, 5, 0⟩ = ([81, 4, 2, 97, 98, 5], 0) := by decide +kernel
theorem bg2 : askedA ⟨#[81, 4, 2, 97, 98, 5]⟩ = (4, ⟨0, [97, 98], 5, 0⟩, 0) := by kernel_rfl
theorem bg3 : tellA 4 ⟨0, 0, ⟨#[]⟩⟩ [⟨2, 7, ⟨#[120]⟩⟩] = ([82, 4, 0, 1, 2, 7, 1, 120], 0) := by decide +kernel
theorem bg4 : toldA ⟨#[82, 4, 0, 1, 2, 7, 1, 120]⟩ = (4, (0, 0, [], [⟨2, 7, ⟨#[120]⟩⟩]), 0) := by kernel_rfl
theorem bg5 : askedA ⟨#[82, 4, 0, 1, 2, 7, 1, 120]⟩ = (0, ⟨0, [], 0, 0⟩, 35) := by kernel_rfl
theorem HRow.at {w : World} {v : Value} {L : List Ht} (h : HRow w v L) {a : Option Addr} {c : Nat} (hv : v = .slice a L.length c) : HsAt w a L := by
  by_cases hL : L = []
  · exact .inl hL
  · have h0 : 0 < L.length := List.length_pos_iff.2 hL
    obtain ⟨g, cap, e, -⟩ := h.cells 0 h0
    rw [e] at hv
    cases hv
    refine .inr ⟨g, 0, rfl, row_lt h (k := g) (by rw [e]; rfl), fun i hi => ?_⟩
    obtain ⟨g', cap', e', c0, c1, c2⟩ := h.cells i hi
    rw [e] at e'
    cases e'
    rw [Nat.zero_add]
    exact ⟨c0, c1, c2⟩
set_option maxHeartbeats 4000000 in
set_option maxRecDepth 100000 in
theorem begun_law (w : World) : Calls Try.prog 16 #[] w fun e w' => e = .returned (.bool true) ∧ Below w.heap.size w w' := by
  have hAsk := fun W => ask_any ⟨4, 0, ⟨#[97, 98]⟩, 5, 0⟩ ⟨by decide, by decide, by decide⟩ W
  have hAsd := fun W => asked_any ⟨#[81, 4, 2, 97, 98, 5]⟩ W (by decide)
  have hAst := fun W => asked_any ⟨#[82, 4, 0, 1, 2, 7, 1, 120]⟩ W (by decide)
  have hTd := fun W => told_any ⟨#[82, 4, 0, 1, 2, 7, 1, 120]⟩ W (by decide)
  have hTl := fun W a cap (h : HsAt W a [⟨2, 7, ⟨#[120]⟩⟩]) => tell_any 4 ⟨0, 0, ⟨#[]⟩⟩ [⟨2, 7, ⟨#[120]⟩⟩] a cap (by decide) (fun x hx => by simp at hx; subst hx; decide) (by decide) W h
  have hSm := fun W a a' c c' h1 h2 => same_any ⟨0, 0, ⟨#[]⟩⟩ [⟨2, 7, ⟨#[120]⟩⟩] a a' c c' W h1 h2 (by decide)
  rw [bg1] at hAsk
  rw [bg2] at hAsd
  rw [bg3] at hTl
  rw [bg4] at hTd
  rw [bg5] at hAst
  simp only [rqV, rqC, rpC, Tx, List.length_cons, List.length_nil, Nat.zero_add] at hAsk hAsd hAst hTl hSm
  have heq := fun W => rq_neq ⟨4, 0, ⟨#[97, 98]⟩, 5, 0⟩ ⟨4, 0, ⟨#[97, 98]⟩, 5, 0⟩ W
  rw [(rqE_iff _ _).2 rfl] at heq
  simp only [rqV, Bool.not_true] at heq
  obtain ⟨AB, hAB⟩ : ∃ AB : ByteArray, AB = ⟨#[97, 98]⟩ := ⟨_, rfl⟩
  obtain ⟨XX, hXX⟩ : ∃ XX : ByteArray, XX = ⟨#[120]⟩ := ⟨_, rfl⟩
  obtain ⟨S1, hS1⟩ : ∃ S1 : ByteArray, S1 = ⟨#[81, 4, 2, 97, 98, 5]⟩ := ⟨_, rfl⟩
  obtain ⟨T1, hT1⟩ : ∃ T1 : ByteArray, T1 = ⟨#[82, 4, 0, 1, 2, 7, 1, 120]⟩ := ⟨_, rfl⟩
  have HTL := Hid.mk hTl
  have HSM := Hid.mk hSm
  have HTD := Hid.mk hTd
  clear hTl hSm hTd
  go_enter Try.func16, Try.ntmps16
  go_wp2_with (first
    | (go_at_call 9; refine (hAsk _).mono ?_; clear hAsk; rintro e w1 ⟨rfl, b1⟩; have H1 := Hid.mk b1; clear b1)
    | (go_at_call 11; refine (hAsd _).mono ?_; clear hAsd; rintro e w2 ⟨rfl, b2⟩; have H2 := Hid.mk b2; clear b2))
  obtain ⟨V4, hV4⟩ : ∃ V4, V4 = ((w2.alloc (.cells #[.int .i64 4, .int .i64 0, .string ⟨#[97, 98]⟩, .int .i64 5, .int .i64 0] 23)).alloc (.cells #[.int .i64 2, .int .i64 7, .string ⟨#[120]⟩] 39)).alloc (.cells #[.int .i64 0, .int .i64 0, .string ⟨#[]⟩, .slice (some ⟨w2.heap.size + 1, 0, none⟩) 1 1] 37) := ⟨_, rfl⟩
  have hV5 := hV4.symm
  have bW2 : Below w.heap.size w w2 := chain (chain ((Below.refl _ w).alloc (Nat.le_refl _) (.cells #[.int .i64 4, .int .i64 0, .string ⟨#[97, 98]⟩, .int .i64 5, .int .i64 0] 23)) H1.out (Nat.le_refl _)) H2.out (Nat.le_refl _)
  have b2V : Below w2.heap.size w2 V4 := by rw [hV4]; exact (((Below.refl _ w2).alloc (Nat.le_refl _) _).alloc (by simp) _).alloc (by simp; omega) _
  have kq : HC V4 w.heap.size #[.int .i64 4, .int .i64 0, .string ⟨#[97, 98]⟩, .int .i64 5, .int .i64 0] 23 := HC.below (HC.below (HC.below (HC.new w #[.int .i64 4, .int .i64 0, .string ⟨#[97, 98]⟩, .int .i64 5, .int .i64 0] 23) H1.out) H2.out) b2V
  have kp : HC V4 w2.heap.size #[.int .i64 4, .int .i64 0, .string ⟨#[97, 98]⟩, .int .i64 5, .int .i64 0] 23 := by rw [hV4]; exact HC.alloc (HC.alloc (HC.new w2 #[.int .i64 4, .int .i64 0, .string ⟨#[97, 98]⟩, .int .i64 5, .int .i64 0] 23) _) _
  have kh : HC V4 (w2.heap.size + 1) #[.int .i64 2, .int .i64 7, .string ⟨#[120]⟩] 39 := by
    have := HC.new (w2.alloc (.cells #[.int .i64 4, .int .i64 0, .string ⟨#[97, 98]⟩, .int .i64 5, .int .i64 0] 23)) #[.int .i64 2, .int .i64 7, .string ⟨#[120]⟩] 39
    have e : (w2.alloc (.cells #[.int .i64 4, .int .i64 0, .string ⟨#[97, 98]⟩, .int .i64 5, .int .i64 0] 23)).heap.size = w2.heap.size + 1 := by simp
    rw [e] at this
    rw [hV4]; exact HC.alloc this _
  have kr : HC V4 (w2.heap.size + 1 + 1) #[.int .i64 0, .int .i64 0, .string ⟨#[]⟩, .slice (some ⟨w2.heap.size + 1, 0, none⟩) 1 1] 37 := by
    have := HC.new ((w2.alloc (.cells #[.int .i64 4, .int .i64 0, .string ⟨#[97, 98]⟩, .int .i64 5, .int .i64 0] 23)).alloc (.cells #[.int .i64 2, .int .i64 7, .string ⟨#[120]⟩] 39)) #[.int .i64 0, .int .i64 0, .string ⟨#[]⟩, .slice (some ⟨w2.heap.size + 1, 0, none⟩) 1 1] 37
    have e : ((w2.alloc (.cells #[.int .i64 4, .int .i64 0, .string ⟨#[97, 98]⟩, .int .i64 5, .int .i64 0] 23)).alloc (.cells #[.int .i64 2, .int .i64 7, .string ⟨#[120]⟩] 39)).heap.size = w2.heap.size + 1 + 1 := by simp
    rw [e] at this
    rw [hV4]; exact this
  have hsA : HsAt V4 (some ⟨w2.heap.size + 1, 0, none⟩) [⟨2, 7, ⟨#[120]⟩⟩] := .inr ⟨w2.heap.size + 1, 0, rfl, kh.lt, fun i hi => by
    have : i = 0 := by simp at hi; exact hi
    subst this
    exact ⟨kh.cell rfl, kh.cell rfl, kh.cell rfl⟩⟩
  have bV4 : Below w.heap.size w V4 := chain bW2 b2V (Nat.le_refl _)
  have hT := HTL.out V4 (some ⟨w2.heap.size + 1, 0, none⟩) 1 hsA
  rw [hV5]
  obtain ⟨pb, hpb⟩ : ∃ pb, pb = w2.heap.size := ⟨_, rfl⟩
  obtain ⟨hb, hhb⟩ : ∃ hb, hb = w2.heap.size + 1 := ⟨_, rfl⟩
  obtain ⟨rb, hrb⟩ : ∃ rb, rb = w2.heap.size + 1 + 1 := ⟨_, rfl⟩
  obtain ⟨qb, hqb⟩ : ∃ qb, qb = w.heap.size := ⟨_, rfl⟩
  have HB := Hid.mk bV4
  have HK := Hid.mk (And.intro kq (And.intro kp (And.intro kr hsA)))
  simp only [← hrb]
  simp only [← hhb]
  simp only [← hpb, ← hqb]
  rw [← hqb, ← hrb, ← hhb, ← hpb] at HK
  rw [← hhb] at hT
  have y0 : V4.cell? ⟨rb, 0, none⟩ = some (.int .i64 0) := HK.out.2.2.1.cell rfl
  clear hV4 hV5 bW2 b2V kq kp kh kr hsA bV4 hpb hhb hrb hqb H1 H2 HTL y0 hAB hXX hS1 hT1
  go_wp2_with (first
    | (go_at_call 13; refine hT.mono ?_; clear hT; rintro e w3 ⟨rfl, b3⟩; have H3 := Hid.mk b3; clear b3)
    | (go_at_call 17; refine (HTD.out _).mono ?_; clear HTD; rintro e w4 ⟨v4, rfl, row4, own4, b4⟩; have H4 := Hid.mk (And.intro row4 b4); obtain ⟨av, cv, hav, -⟩ := slice_form row4; simp only [List.length_cons, List.length_nil, Nat.zero_add] at hav; subst hav; clear row4 own4 b4)
    | (go_at_call 11; refine (hAst _).mono ?_; clear hAst; rintro e w5 ⟨rfl, b5⟩; have H5 := Hid.mk b5; have bb : Below V4.heap.size V4 w5 := chain (chain H3.out H4.out.2 (Nat.le_refl _) |>.alloc (Nat.le_trans H3.out.size H4.out.2.size) (.cells #[.int .i64 0, .int .i64 0, .string ⟨#[]⟩, .slice av 1 cv] 37)) b5 (Nat.le_refl _); have kq := HK.out.1.below bb; have kp := HK.out.2.1.below bb; have kr := HK.out.2.2.1.below bb; have ku := HC.below (HC.new w4 #[.int .i64 0, .int .i64 0, .string ⟨#[]⟩, .slice av 1 cv] 37) b5; have a0 : w5.cell? ⟨qb, 0, none⟩ = some (.int .i64 4) := kq.cell rfl; have a1 : w5.cell? ⟨qb, 1, none⟩ = some (.int .i64 0) := kq.cell rfl; have a2 : w5.cell? ⟨qb, 2, none⟩ = some (.string ⟨#[97, 98]⟩) := kq.cell rfl; have a3 : w5.cell? ⟨qb, 3, none⟩ = some (.int .i64 5) := kq.cell rfl; have a4 : w5.cell? ⟨qb, 4, none⟩ = some (.int .i64 0) := kq.cell rfl; have p0 : w5.cell? ⟨pb, 0, none⟩ = some (.int .i64 4) := kp.cell rfl; have p1 : w5.cell? ⟨pb, 1, none⟩ = some (.int .i64 0) := kp.cell rfl; have p2 : w5.cell? ⟨pb, 2, none⟩ = some (.string ⟨#[97, 98]⟩) := kp.cell rfl; have p3 : w5.cell? ⟨pb, 3, none⟩ = some (.int .i64 5) := kp.cell rfl; have p4 : w5.cell? ⟨pb, 4, none⟩ = some (.int .i64 0) := kp.cell rfl; have r0 : w5.cell? ⟨rb, 0, none⟩ = some (.int .i64 0) := kr.cell rfl; have r1 : w5.cell? ⟨rb, 1, none⟩ = some (.int .i64 0) := kr.cell rfl; have r2 : w5.cell? ⟨rb, 2, none⟩ = some (.string ⟨#[]⟩) := kr.cell rfl; have r3 : w5.cell? ⟨rb, 3, none⟩ = some (.slice (some ⟨hb, 0, none⟩) 1 1) := kr.cell rfl; have u0 : w5.cell? ⟨w4.heap.size, 0, none⟩ = some (.int .i64 0) := ku.cell rfl; have u1 : w5.cell? ⟨w4.heap.size, 1, none⟩ = some (.int .i64 0) := ku.cell rfl; have u2 : w5.cell? ⟨w4.heap.size, 2, none⟩ = some (.string ⟨#[]⟩) := ku.cell rfl; have u3 : w5.cell? ⟨w4.heap.size, 3, none⟩ = some (.slice av 1 cv) := ku.cell rfl; have lq := kq.lt; have lp := kp.lt; have lr := kr.lt; have lu := ku.lt; have H6 := Hid.mk (And.intro bb (And.intro (HK.out.2.2.2.below bb) ((HRow.at H4.out.1 rfl).below (chain ((Below.refl _ w4).alloc (Nat.le_refl _) (.cells #[.int .i64 0, .int .i64 0, .string ⟨#[]⟩, .slice av 1 cv] 37)) b5 (Nat.le_refl _))))); clear kq kp kr ku bb b5))
  have bD : Below w5.heap.size w5 (w5.alloc (.cells #[.int .i64 0, .int .i64 0, .string ⟨#[]⟩, .int .i64 0, .int .i64 0] 23)) := (Below.refl _ w5).alloc (Nat.le_refl _) _
  have hS := HSM.out _ av (some ⟨hb, 0, none⟩) cv 1 (H6.out.2.2.below bD) (H6.out.2.1.below bD)
  have HD := Hid.mk bD
  clear bD
  go_wp2_with (go_at_call 18; refine hS.mono ?_; clear hS; rintro e w7 ⟨rfl, b7⟩; have H7 := Hid.mk b7; clear b7)
  go_ret
  exact ⟨rfl, chain (chain (chain HB.out H6.out.1 (Nat.le_refl _)) HD.out (Nat.le_refl _)) H7.out (Nat.le_refl _)⟩
end Go.Proofs.Ytnkepggldlobjaa
