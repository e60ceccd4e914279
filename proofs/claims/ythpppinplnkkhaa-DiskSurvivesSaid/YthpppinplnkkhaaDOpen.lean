/-
  DERIVED. A script that came in, opened.
-/
import Derived.Test.YthpppinplnkkhaaDQuiet
import Derived.Deep.Slices
set_option linter.unusedVariables false
set_option linter.unusedSimpArgs false
set_option linter.unnecessarySimpa false
namespace Go.Proofs.Ythpppinplnkkhaa
open Go.RowKit Go.ChangeShapes Go.Deep Go.Proofs.DiskMath
theorem add_plain (b off j : Nat) : (⟨b, off, none⟩ : Addr).add j = ⟨b, off + j, none⟩ := by unfold Addr.add; split <;> simp_all
theorem cellsStp : Try.prog.cellsOf 29 = 8 := by kernel_rfl
theorem cellsCut : Try.prog.cellsOf 45 = 3 := by kernel_rfl
theorem cells3 : Try.prog.cellsOf 3 = 1 := by kernel_rfl
theorem cells9 : Try.prog.cellsOf 9 = 1 := by kernel_rfl
theorem cells5 : Try.prog.cellsOf 5 = 1 := by kernel_rfl
theorem cells4 : Try.prog.cellsOf 4 = 1 := by kernel_rfl
theorem cellsCuts : Try.prog.cellsOf 27 = 1 := by kernel_rfl
theorem choose_list {α : Type} {n : Nat} {P : Nat → α → Prop} (h : ∀ i, i < n → ∃ x, P i x) : ∃ l : List α, l.length = n ∧ ∀ i (hi : i < l.length), P i l[i] := by
  induction n with
  | zero => exact ⟨[], rfl, fun i hi => by cases hi⟩
  | succ n ih =>
    obtain ⟨l, hl, hp⟩ := ih (fun i hi => h i (by omega))
    obtain ⟨x, hx⟩ := h n (by omega)
    refine ⟨l ++ [x], by simp [hl], fun i hi => ?_⟩
    by_cases hin : i < l.length
    · rw [List.getElem_append_left hin]; exact hp i hin
    · have : i = l.length := by simp at hi; omega
      subst this
      rw [List.getElem_append_right (Nat.le_refl _)]
      simpa [hl] using hx
theorem wf_i64 {z : Int} (h : (Lit.int .i64 z).wf = true) : -9223372036854775808 ≤ z ∧ z < 9223372036854775808 := by
  have h1 : IntKind.i64.min ≤ z ∧ z ≤ IntKind.i64.max := by simpa [Lit.wf] using h
  have e1 : IntKind.i64.min = -9223372036854775808 := by decide
  have e2 : IntKind.i64.max = 9223372036854775807 := by decide
  omega
theorem wf_u8 {z : Int} (h : (Lit.int .u8 z).wf = true) : ∃ x : UInt8, (x.toNat : Int) = z := by
  have h1 : IntKind.u8.min ≤ z ∧ z ≤ IntKind.u8.max := by simpa [Lit.wf] using h
  have e1 : IntKind.u8.min = 0 := by decide
  have e2 : IntKind.u8.max = 255 := by decide
  refine ⟨UInt8.ofNat z.toNat, ?_⟩
  simp
  omega
set_option maxRecDepth 100000 in
theorem open_cuts {H : Type} {enc : TypeId × Value → H} {W : World} {base : Nat} {spare : Nat → Bool} {held : Bool} {fuel : Nat} {v : Value} {x : DataW H × List MemPlace} (h : DataW.trod enc Try.prog W base spare held fuel 27 [v] = some x) :
    ∃ (a : Option Addr) (cs : List (ByteArray × Int × UInt8)) (cap : Nat), v = .slice a cs.length cap ∧ cs.length < 9223372036854775808 ∧ CutsAt W a cs ∧ ∀ j (hj : j < cs.length), (cs[j]).1.size ≤ maxLen ∧ -9223372036854775808 ≤ (cs[j]).2.1 ∧ (cs[j]).2.1 < 9223372036854775808 := by
  rcases open_slice Try.underlying27 h with ⟨hcs, _⟩ | ⟨a, len, cap, m, n, D, Pl, hcs, _, hlc, hcm, hm, _, hel⟩
  · simp at hcs
    exact ⟨none, [], 0, by rw [hcs]; rfl, by decide, fun j hj => (by cases hj), fun j hj => (by cases hj)⟩
  · simp at hcs
    subst hcs
    have hlm : len ≤ m := by rw [hm]; split <;> omega
    have each : ∀ i, i < len → ∃ f : ByteArray × Int × UInt8, W.cell? (a.add (i * 3)) = some (.string f.1) ∧ W.cell? (a.add (i * 3 + 1)) = some (.int .i64 f.2.1) ∧ W.cell? (a.add (i * 3 + 2)) = some (.int .u8 f.2.2.toNat) ∧ f.1.size ≤ maxLen ∧ -9223372036854775808 ≤ f.2.1 ∧ f.2.1 < 9223372036854775808 := by
      intro i hi
      obtain ⟨cs', h1, h2⟩ := hel i (by omega)
      rw [cellsCut] at h1
      obtain ⟨_, hlen, hcell⟩ := World.cells?_some h1
      obtain ⟨xs, k, hk, hxy, _, hxl, hf⟩ := DataW.trod_struct Try.underlying45 h2
      match xs, hxl, cs', hlen with
      | [y0, y1, y2], _, [v0, v1, v2], _ =>
        have g0 := hf 0 _ rfl
        have g1 := hf 1 _ rfl
        have g2 := hf 2 _ rfl
        simp [cells9] at g0
        simp [cells3] at g1
        simp [cells5] at g2
        obtain ⟨s, hs, _, hsz⟩ := DataW.trod_string Try.underlying9 g0
        obtain ⟨z, hz, _, hzw⟩ := DataW.trod_int Try.underlying3 g1
        obtain ⟨u, hu, _, huw⟩ := DataW.trod_int Try.underlying5 g2
        simp at hs hz hu
        subst hs hz hu
        obtain ⟨ub, hub⟩ := wf_u8 huw
        have e0 := hcell 0 (by omega)
        have e1 := hcell 1 (by omega)
        have e2 := hcell 2 (by omega)
        have ad : ∀ t, (a.add (i * 3)).add t = a.add (i * 3 + t) := fun t => by unfold Addr.add; split <;> split <;> simp_all <;> omega
        rw [ad] at e0 e1 e2
        refine ⟨(s, z, ub), by simpa using e0, by simpa using e1, ?_, hsz, (wf_i64 hzw).1, (wf_i64 hzw).2⟩
        dsimp only
        rw [hub]; simpa using e2
    obtain ⟨cs, hcl, hP⟩ := choose_list each
    subst hcl
    refine ⟨some a, cs, cap, rfl, by unfold maxLen at hcm; omega, fun j hj => ?_, fun j hj => (hP j hj).2.2.2⟩
    obtain ⟨b, off, spot⟩ := a
    have hsp : spot = none := by
      have := World.cell?_spot (hP 0 (by omega)).1
      simpa [Addr.add] using this
    subst hsp
    obtain ⟨q0, q1, q2, _⟩ := hP j hj
    rw [add_plain] at q0 q1 q2
    exact ⟨b, off, rfl, q0, by rw [Nat.add_assoc]; exact q1, by rw [Nat.add_assoc]; exact q2⟩
/-- What a script reads as. -/
theorem Scr.below {w W : World} {a : Option Addr} {ss : List Stp} (h : Scr w a ss) (b : Below w.heap.size w W) : Scr W a ss := by
  have key : ∀ {p : Addr} {v : Value}, w.cell? p = some v → W.cell? p = some v := fun hp => (b.cell (World.block_lt_of_cell? w _ hp)).trans hp
  refine ⟨fun i hi => ?_, fun i hi j hj => ?_⟩
  · obtain ⟨bb, o, ha, hc⟩ := h.at_ i hi
    refine ⟨bb, o, ha, fun k hk => ?_⟩
    have h1 := hc k hk
    have h2 : ∃ v, (stpC ss[i])[k]? = some v := ⟨(stpC ss[i])[k]'(by simpa [stpC] using hk), by rw [Array.getElem?_eq_getElem]⟩
    obtain ⟨v, h2⟩ := h2
    rw [h2] at h1 ⊢
    exact key h1
  · obtain ⟨bb, o, ha, h0, h1, h2⟩ := h.cuts i hi j hj
    exact ⟨bb, o, ha, key h0, key h1, key h2⟩
set_option maxHeartbeats 1000000 in
set_option maxRecDepth 100000 in
theorem open_steps {H : Type} {enc : TypeId × Value → H} {W : World} {base : Nat} {spare : Nat → Bool} {held : Bool} {fuel : Nat} {a0 : Option Addr} {len cap : Nat} {x : DataW H × List MemPlace} (h : DataW.trod enc Try.prog W base spare held fuel 22 [.slice a0 len cap] = some x) :
    ∃ ss : List Stp, ss.length = len ∧ ss.length < 9223372036854775808 ∧ Scr W a0 ss ∧ ∀ i (hi : i < ss.length), StpOk ss[i] := by
  rcases open_slice Try.underlying22 h with ⟨hcs, _⟩ | ⟨a, len', cap', m, n, D, Pl, hcs, _, hlc, hcm, hm, _, hel⟩
  · simp at hcs
    exact ⟨[], hcs.2.1.symm, by decide, ⟨fun i hi => (by cases hi), fun i hi => (by cases hi)⟩, fun i hi => (by cases hi)⟩
  · simp at hcs
    obtain ⟨rfl, rfl, rfl⟩ := hcs
    have hlm : len ≤ m := by rw [hm]; split <;> omega
    have each : ∀ i, i < len → ∃ s : Stp, (∀ k, k < 8 → W.cell? (a.add (i * 8 + k)) = (stpC s)[k]?) ∧ CutsAt W s.ca s.cs ∧ StpOk s := by
      intro i hi
      obtain ⟨cs', h1, h2⟩ := hel i (by omega)
      rw [cellsStp] at h1
      obtain ⟨_, hlen, hcell⟩ := World.cells?_some h1
      obtain ⟨xs, k, hk, hxy, _, hxl, hf⟩ := DataW.trod_struct Try.underlying29 h2
      match xs, hxl, cs', hlen with
      | [y0, y1, y2, y3, y4, y5, y6, y7], _, [v0, v1, v2, v3, v4, v5, v6, v7], _ =>
        have g0 := hf 0 _ rfl
        have g1 := hf 1 _ rfl
        have g2 := hf 2 _ rfl
        have g3 := hf 3 _ rfl
        have g4 := hf 4 _ rfl
        have g5 := hf 5 _ rfl
        have g6 := hf 6 _ rfl
        have g7 := hf 7 _ rfl
        simp [cells3] at g0 g4 g5
        simp [cells9] at g1 g2 g3
        simp [cells4] at g6
        simp [cellsCuts] at g7
        obtain ⟨z0, hz0, _, hzw0⟩ := DataW.trod_int Try.underlying3 g0
        obtain ⟨s1, hs1, _, hsz1⟩ := DataW.trod_string Try.underlying9 g1
        obtain ⟨s2, hs2, _, hsz2⟩ := DataW.trod_string Try.underlying9 g2
        obtain ⟨s3, hs3, _, hsz3⟩ := DataW.trod_string Try.underlying9 g3
        obtain ⟨z4, hz4, _, hzw4⟩ := DataW.trod_int Try.underlying3 g4
        obtain ⟨z5, hz5, _, hzw5⟩ := DataW.trod_int Try.underlying3 g5
        obtain ⟨z6, hz6, _⟩ := DataW.trod_bool Try.underlying4 g6
        obtain ⟨ca, cs, cc, hv7, hl7, hc7, hk7⟩ := open_cuts g7
        simp at hz0 hs1 hs2 hs3 hz4 hz5 hz6
        subst hz0 hs1 hs2 hs3 hz4 hz5 hz6 hv7
        refine ⟨⟨z0, s1, s2, s3, z4, z5, z6, ca, cs, cc⟩, fun k hk => ?_, hc7, ⟨wf_i64 hzw4, wf_i64 hzw5, hsz3, hl7, hk7⟩⟩
        have e := hcell k (by omega)
        have ad : (a.add (i * 8)).add k = a.add (i * 8 + k) := by unfold Addr.add; split <;> split <;> simp_all <;> omega
        rw [ad] at e
        rw [e]
        unfold stpC
        simp
    obtain ⟨ss, hcl, hP⟩ := choose_list each
    subst hcl
    refine ⟨ss, rfl, by unfold maxLen at hcm; omega, ⟨fun i hi => ?_, fun i hi => (hP i hi).2.1⟩, fun i hi => (hP i hi).2.2⟩
    obtain ⟨b, off, spot⟩ := a
    have hsp : spot = none := by
      have h0 := (hP 0 (by omega)).1 0 (by omega)
      have := World.cell?_spot h0
      simpa [Addr.add] using this
    subst hsp
    refine ⟨b, off, rfl, fun k hk => ?_⟩
    have h0 := (hP i hi).1 k hk
    rw [add_plain] at h0
    rw [Nat.add_assoc]; exact h0
theorem laidOut : laidOutB Try.prog = true := by kernel_rfl
end Go.Proofs.Ythpppinplnkkhaa
