/-
  DERIVED. PlOpen, PlTextRow, as one text.
-/
import Derived.Test.YtojnlngpgbcimaaDoorTpAK
import Derived.Test.YtojnlngpgbcimaaDoorRows
import Derived.Deep.Slices
import Derived.WideShapes
import Derived.ChangeShapes
import Derived.SizedLaws
import Derived.ChangeSlices
import Derived.Test.YtojnlngpgbcimaaDoorTpAH
import Derived.Test.YtojnlngpgbcimaaDoorTpAQ
import Derived.ChangeMaps5
import Derived.Deep.DeepHandedRow
import Derived.JoinedCond
set_option linter.unusedVariables false
set_option linter.unusedSimpArgs false
namespace Go.Proofs.YtojnlngpgbcimaaDoor
open Go.RowKit Go.ChangeShapes Go.WideShapes Go.Deep
theorem add_plain (b off j : Nat) : (⟨b, off, none⟩ : Addr).add j = ⟨b, off + j, none⟩ := by unfold Addr.add; split <;> simp_all
theorem cells3 : Tryd.prog.cellsOf 3 = 1 := by kernel_rfl
theorem cells9 : Tryd.prog.cellsOf 9 = 1 := by kernel_rfl
theorem cellsIs : Tryd.prog.cellsOf 27 = 1 := by kernel_rfl
theorem cellsSs : Tryd.prog.cellsOf 28 = 1 := by kernel_rfl
theorem cellsOp : Tryd.prog.cellsOf 30 = 3 := by kernel_rfl
theorem cellsSt : Tryd.prog.cellsOf 32 = 6 := by kernel_rfl
theorem laidOut : laidOutB Tryd.prog = true := by kernel_rfl
theorem i64_wf {n : Int} (h : (Lit.int .i64 n).wf = true) : I64 n := by
  have e1 : IntKind.i64.min = -9223372036854775808 := rfl
  have e2 : IntKind.i64.max = 9223372036854775807 := rfl
  simp [Lit.wf, e1, e2] at h
  exact ⟨h.1, by omega⟩
theorem bulk_sum {H : Type} {D : Nat → DataW H} {f : Nat → Nat} : ∀ (l : List Nat), (∀ i ∈ l, f i ≤ Rows.uptoBulk (D i)) → (l.map f).sum ≤ Rows.uptoBulkAll (l.map D)
  | [], _ => by simp
  | i :: l, h => by
    have h1 := bulk_sum l (fun j hj => h j (by simp [hj]))
    have h2 := h i (by simp)
    rw [List.map_cons, List.sum_cons, List.map_cons]
    unfold Rows.uptoBulkAll
    omega
theorem choose_lt {α : Type} [Inhabited α] {n : Nat} {p : Nat → α → Prop} (h : ∀ i, i < n → ∃ x, p i x) : ∃ F : Nat → α, ∀ i, i < n → p i (F i) := by
  have h2 : ∀ i, ∃ x, i < n → p i x := fun i => by
    by_cases hi : i < n
    · obtain ⟨x, hx⟩ := h i hi
      exact ⟨x, fun _ => hx⟩
    · exact ⟨default, fun hh => absurd hh hi⟩
  exact ⟨fun i => Classical.choose (h2 i), fun i hi => Classical.choose_spec (h2 i) hi⟩
theorem len_one {α : Type} {E : Rw.El α} (hf : ∀ x, (E.f x).length = 1) : ∀ l : List α, (l.flatMap E.f).length = l.length
  | [] => rfl
  | y :: l => by rw [List.flatMap_cons, List.length_append, hf, len_one hf l, List.length_cons, Nat.add_comm]
theorem at_one {α : Type} {E : Rw.El α} (hf : ∀ x, (E.f x).length = 1) {W : World} {b off : Nat} {l : List α} (h : ∀ i (hi : i < l.length), ∀ u, (E.f l[i])[0]? = some u → W.cell? ⟨b, off + i, none⟩ = some u) : E.At W (some ⟨b, off, none⟩) l := ⟨fun _ => ⟨b, off, rfl, fun j x hx => by
  have hl := len_one hf l
  have hj : j < l.length := by have := (List.getElem?_eq_some_iff.1 hx).1; omega
  have h1 := Rw.flat_at E.f 1 hf l j 0 hj (by omega)
  rw [Nat.mul_one, Nat.add_zero, hx] at h1
  exact h j hj x h1.symm⟩⟩
set_option maxRecDepth 100000 in
theorem open_is {H : Type} {enc : TypeId × Value → H} {W : World} {base : Nat} {spare : Nat → Bool} {held : Bool} {fuel : Nat} {a0 : Option Addr} {len cap : Nat} {d : DataW H} {ps : List MemPlace}
    (h : DataW.trod enc Tryd.prog W base spare held fuel 27 [.slice a0 len cap] = some (d, ps)) :
    ∃ l : List Int, l.length = len ∧ EI.At W a0 l ∧ (∀ n ∈ l, I64 n) ∧ l.length ≤ Rows.uptoBulk d ∧ (a0 = none → cap = 0) := by
  rcases open_slice Tryd.underlying27 h with ⟨hcs, _⟩ | ⟨a, len', cap', m, n, D, Pl, hcs, _, hlc, _, hm, hx, hel⟩
  · simp at hcs
    obtain ⟨rfl, rfl, rfl⟩ := hcs
    exact ⟨[], rfl, ⟨fun h => absurd rfl h⟩, fun e he => (by cases he), Nat.zero_le _, fun _ => rfl⟩
  · simp at hcs
    obtain ⟨rfl, rfl, rfl⟩ := hcs
    have hlm : len ≤ m := by rw [hm]; split <;> omega
    simp only [Prod.mk.injEq] at hx
    obtain ⟨hd, hps⟩ := hx
    have each : ∀ i, i < len → ∃ x : Int, W.cell? (a.add (i * 1)) = some (.int .i64 x) ∧ I64 x ∧ D i = .lit (.int .i64 x) := by
      intro i hi
      obtain ⟨cs', h1, h2⟩ := hel i (by omega)
      rw [cells3] at h1
      obtain ⟨_, hlen, hcell⟩ := World.cells?_some h1
      obtain ⟨x, e1, e2, w1⟩ := DataW.trod_int Tryd.underlying3 h2
      refine ⟨x, ?_, i64_wf w1, ?_⟩
      · have h3 := hcell 0 (by omega)
        rw [e1] at h3
        have e4 : (a.add (i * 1)).add 0 = a.add (i * 1) := by obtain ⟨b, o, s⟩ := a; cases s <;> simp [Addr.add]
        rw [e4] at h3
        simpa using h3
      · exact congrArg Prod.fst e2
    obtain ⟨F, hF⟩ := choose_lt each
    have hb : len ≤ Rows.uptoBulk d := by
      have h1 := bulk_sum (D := D) (f := fun _ => 1) (List.range len) (fun i hi => by
        rw [(hF i (List.mem_range.1 hi)).2.2]; simp [Rows.uptoBulk])
      rw [hd]
      unfold Rows.uptoBulk
      have e : ∀ l : List Nat, (l.map (fun _ => 1)).sum = l.length := fun l => by
        induction l with
        | nil => rfl
        | cons x l ih => rw [List.map_cons, List.sum_cons, List.length_cons, ih, Nat.add_comm]
      rw [e, List.length_range] at h1
      omega
    rcases Nat.eq_zero_or_pos len with h0 | h0
    · subst h0
      exact ⟨[], rfl, ⟨fun h => absurd rfl h⟩, fun e he => (by cases he), Nat.zero_le _, fun h => by cases h⟩
    · obtain ⟨b, off, spot⟩ := a
      have hsp : spot = none := by
        have := World.cell?_spot (hF 0 h0).1
        simpa [Addr.add] using this
      subst hsp
      refine ⟨(List.range len).map F, by simp, at_one (fun _ => rfl) (fun i hi u hu => ?_), fun x hx => ?_, by simpa using hb, fun h => by cases h⟩
      · have hi' : i < len := by simpa using hi
        have h1 := (hF i hi').1
        rw [add_plain, Nat.mul_one] at h1
        simp at hu
        rw [← hu]; exact h1
      · obtain ⟨i, hi, rfl⟩ := List.mem_map.1 hx
        exact (hF i (List.mem_range.1 hi)).2.1
set_option maxRecDepth 100000 in
theorem open_ss {H : Type} {enc : TypeId × Value → H} {W : World} {base : Nat} {spare : Nat → Bool} {held : Bool} {fuel : Nat} {a0 : Option Addr} {len cap : Nat} {d : DataW H} {ps : List MemPlace}
    (h : DataW.trod enc Tryd.prog W base spare held fuel 28 [.slice a0 len cap] = some (d, ps)) :
    ∃ l : List ByteArray, l.length = len ∧ ES.At W a0 l ∧ l.length + bytesS l ≤ Rows.uptoBulk d ∧ (a0 = none → cap = 0) := by
  rcases open_slice Tryd.underlying28 h with ⟨hcs, _⟩ | ⟨a, len', cap', m, n, D, Pl, hcs, _, hlc, _, hm, hx, hel⟩
  · simp at hcs
    obtain ⟨rfl, rfl, rfl⟩ := hcs
    exact ⟨[], rfl, ⟨fun h => absurd rfl h⟩, Nat.zero_le _, fun _ => rfl⟩
  · simp at hcs
    obtain ⟨rfl, rfl, rfl⟩ := hcs
    have hlm : len ≤ m := by rw [hm]; split <;> omega
    simp only [Prod.mk.injEq] at hx
    obtain ⟨hd, hps⟩ := hx
    have each : ∀ i, i < len → ∃ x : ByteArray, W.cell? (a.add (i * 1)) = some (.string x) ∧ D i = .lit (.string x.data.toList) := by
      intro i hi
      obtain ⟨cs', h1, h2⟩ := hel i (by omega)
      rw [cells9] at h1
      obtain ⟨_, hlen, hcell⟩ := World.cells?_some h1
      obtain ⟨x, e1, e2, w1⟩ := DataW.trod_string Tryd.underlying9 h2
      refine ⟨x, ?_, congrArg Prod.fst e2⟩
      have h3 := hcell 0 (by omega)
      rw [e1] at h3
      have e4 : (a.add (i * 1)).add 0 = a.add (i * 1) := by obtain ⟨b, o, s⟩ := a; cases s <;> simp [Addr.add]
      rw [e4] at h3
      simpa using h3
    haveI : Inhabited ByteArray := ⟨⟨#[]⟩⟩
    obtain ⟨F, hF⟩ := choose_lt each
    have hb : len + bytesS ((List.range len).map F) ≤ Rows.uptoBulk d := by
      have h1 := bulk_sum (D := D) (f := fun i => 1 + (F i).size) (List.range len) (fun i hi => by
        rw [(hF i (List.mem_range.1 hi)).2]
        have e : (F i).data.toList.length = (F i).size := by simp
        unfold Rows.uptoBulk
        omega)
      rw [hd]
      unfold Rows.uptoBulk
      have e : ∀ l : List Nat, (l.map (fun i => 1 + (F i).size)).sum = l.length + bytesS (l.map F) := by
        intro l
        induction l with
        | nil => rfl
        | cons x l ih =>
          unfold bytesS at ih ⊢
          rw [List.map_cons, List.sum_cons, List.map_cons, List.map_cons, List.sum_cons, List.length_cons, ih]; omega
      rw [e, List.length_range] at h1
      omega
    rcases Nat.eq_zero_or_pos len with h0 | h0
    · subst h0
      exact ⟨[], rfl, ⟨fun h => absurd rfl h⟩, Nat.zero_le _, fun h => by cases h⟩
    · obtain ⟨b, off, spot⟩ := a
      have hsp : spot = none := by
        have := World.cell?_spot (hF 0 h0).1
        simpa [Addr.add] using this
      subst hsp
      refine ⟨(List.range len).map F, by simp, at_one (fun _ => rfl) (fun i hi u hu => ?_), by simpa using hb, fun h => by cases h⟩
      have hi' : i < len := by simpa using hi
      have h1 := (hF i hi').1
      rw [add_plain, Nat.mul_one] at h1
      simp at hu
      rw [← hu]; exact h1
set_option maxRecDepth 100000 in
theorem open_st {H : Type} {enc : TypeId × Value → H} {W : World} {base : Nat} {spare : Nat → Bool} {held : Bool} {fuel : Nat} {cs : List Value} {x : DataW H × List MemPlace}
    (h : DataW.trod enc Tryd.prog W base spare held fuel 32 cs = some x) : ∃ m : Mt, cs = mC m ∧ MtAt W m ∧ StI m.s ∧ ((m.la = none → m.ca = 0) ∧ (m.lb = none → m.cb = 0)) ∧ 1 + m.s.N.length + (m.s.S.length + bytesS m.s.S) ≤ Rows.uptoBulk x.1 := by
  obtain ⟨xs, k, hk, hxy, hlen, hxl, hf⟩ := DataW.trod_struct Tryd.underlying32 h
  rw [cellsSt] at hlen
  match xs, hxl, cs, hlen with
  | [y0, y1, y2, y3], _, [v0, v1, v2, v3, v4, v5], _ =>
    have g0 := hf 0 _ rfl
    have g1 := hf 1 _ rfl
    have g2 := hf 2 _ rfl
    have g3 := hf 3 _ rfl
    simp [cells3, cellsIs, cellsSs, cellsOp] at g0 g1 g2 g3
    obtain ⟨n0, e0, _, w0⟩ := DataW.trod_int Tryd.underlying3 g0
    obtain ⟨la, n1, c1, hv1⟩ : ∃ la n0 c0, v1 = .slice la n0 c0 := by
      rcases open_slice Tryd.underlying27 g1 with ⟨hcs, _⟩ | ⟨a, len', cap', m, n, D, Pl, hcs, _⟩
      · simp at hcs; exact ⟨none, 0, 0, hcs⟩
      · simp at hcs; exact ⟨some a, len', cap', hcs⟩
    obtain ⟨lb, n2, c2, hv2⟩ : ∃ la n0 c0, v2 = .slice la n0 c0 := by
      rcases open_slice Tryd.underlying28 g2 with ⟨hcs, _⟩ | ⟨a, len', cap', m, n, D, Pl, hcs, _⟩
      · simp at hcs; exact ⟨none, 0, 0, hcs⟩
      · simp at hcs; exact ⟨some a, len', cap', hcs⟩
    subst hv1 hv2
    obtain ⟨l1, hl1, hA1, hI1, hb1, hc1⟩ := open_is (d := y1.1) (ps := y1.2) g1
    obtain ⟨l2, hl2, hA2, hb2, hc2⟩ := open_ss (d := y2.1) (ps := y2.2) g2
    obtain ⟨zs, k2, hk2, hzy, hzlen, hzl, hzf⟩ := DataW.trod_struct Tryd.underlying30 g3
    match zs, hzl with
    | [z0, z1, z2], _ =>
      have q0 := hzf 0 _ rfl
      have q1 := hzf 1 _ rfl
      have q2 := hzf 2 _ rfl
      simp [cells3] at q0 q1 q2
      obtain ⟨n3, e3, _, w3⟩ := DataW.trod_int Tryd.underlying3 q0
      obtain ⟨n4, e4, _, w4⟩ := DataW.trod_int Tryd.underlying3 q1
      obtain ⟨n5, e5, _, w5⟩ := DataW.trod_int Tryd.underlying3 q2
      simp at e0 e3 e4 e5
      subst e0 e3 e4 e5 hl1 hl2
      refine ⟨⟨⟨n0, l1, l2, n3, n4, n5⟩, la, c1, lb, c2⟩, rfl, ⟨hA1, hA2⟩, ⟨i64_wf w0, hI1, i64_wf w3, i64_wf w4, i64_wf w5⟩, ⟨hc1, hc2⟩, ?_⟩
      have hx0 : x.1 = .agg [y0.1, y1.1, y2.1, y3.1] := congrArg Prod.fst hxy
      rw [hx0]
      simp only [Rows.uptoBulk, Rows.uptoBulkAll]
      omega
set_option maxRecDepth 100000 in
theorem open_steps {H : Type} {enc : TypeId × Value → H} {W : World} {base : Nat} {spare : Nat → Bool} {held : Bool} {fuel : Nat} {a0 : Option Addr} {len cap : Nat} {d : DataW H} {ps : List MemPlace}
    (h : DataW.trod enc Tryd.prog W base spare held fuel 22 [.slice a0 len cap] = some (d, ps)) :
    ∃ L : List Mt, L.length = len ∧ EM.At W a0 L ∧ (∀ m ∈ L, MtAt W m) ∧ (∀ m ∈ L, StI m.s) ∧ (∀ m ∈ L, (m.la = none → m.ca = 0) ∧ (m.lb = none → m.cb = 0)) ∧ L.length + sumN (L.map Mt.s) + (sumS (L.map Mt.s) + sumB (L.map Mt.s)) < Rows.uptoBulk d + 1 ∧ (0 < L.length → L.length + sumN (L.map Mt.s) + (sumS (L.map Mt.s) + sumB (L.map Mt.s)) < Rows.uptoBulk d) := by
  rcases open_slice Tryd.underlying22 h with ⟨hcs, _⟩ | ⟨a, len', cap', m, n, D, Pl, hcs, _, hlc, _, hm, hx, hel⟩
  · simp at hcs
    obtain ⟨rfl, rfl, rfl⟩ := hcs
    exact ⟨[], rfl, ⟨fun h => absurd rfl h⟩, fun e he => (by cases he), fun e he => (by cases he), fun e he => (by cases he), by simp [sumN, sumS, sumB], fun h => by simp at h⟩
  · simp at hcs
    obtain ⟨rfl, rfl, rfl⟩ := hcs
    have hlm : len ≤ m := by rw [hm]; split <;> omega
    simp only [Prod.mk.injEq] at hx
    obtain ⟨hd, hps⟩ := hx
    have each : ∀ i, i < len → ∃ e : Mt, (∀ j v, (mC e)[j]? = some v → W.cell? ((a.add (i * 6)).add j) = some v) ∧ MtAt W e ∧ StI e.s ∧ ((e.la = none → e.ca = 0) ∧ (e.lb = none → e.cb = 0)) ∧ 1 + e.s.N.length + (e.s.S.length + bytesS e.s.S) ≤ Rows.uptoBulk (D i) := by
      intro i hi
      obtain ⟨cs', h1, h2⟩ := hel i (by omega)
      rw [cellsSt] at h1
      obtain ⟨_, hlen, hcell⟩ := World.cells?_some h1
      obtain ⟨e, rfl, p1, p2, p3, p4⟩ := open_st h2
      refine ⟨e, fun j v hv => ?_, p1, p2, p3, p4⟩
      have hj : j < 6 := by have := (List.getElem?_eq_some_iff.1 hv).1; simpa [mC] using this
      rw [hcell j hj, hv]
    haveI : Inhabited Mt := ⟨⟨⟨0, [], [], 0, 0, 0⟩, none, 0, none, 0⟩⟩
    obtain ⟨F, hF⟩ := choose_lt each
    have hb : len + sumN (((List.range len).map F).map Mt.s) + (sumS (((List.range len).map F).map Mt.s) + sumB (((List.range len).map F).map Mt.s)) < Rows.uptoBulk d := by
      have h1 := bulk_sum (D := D) (f := fun i => 1 + (F i).s.N.length + ((F i).s.S.length + bytesS (F i).s.S)) (List.range len) (fun i hi => (hF i (List.mem_range.1 hi)).2.2.2.2)
      rw [hd]
      unfold Rows.uptoBulk
      have e : ∀ l : List Nat, (l.map (fun i => 1 + (F i).s.N.length + ((F i).s.S.length + bytesS (F i).s.S))).sum = l.length + sumN ((l.map F).map Mt.s) + (sumS ((l.map F).map Mt.s) + sumB ((l.map F).map Mt.s)) := by
        intro l
        induction l with
        | nil => rfl
        | cons x l ih =>
          unfold sumN sumS sumB at ih ⊢
          simp only [List.map_cons, List.sum_cons, List.length_cons]
          rw [ih]; omega
      rw [e, List.length_range] at h1
      omega
    rcases Nat.eq_zero_or_pos len with h0 | h0
    · subst h0
      exact ⟨[], rfl, ⟨fun h => absurd rfl h⟩, fun e he => (by cases he), fun e he => (by cases he), fun e he => (by cases he), by simp [sumN, sumS, sumB], fun h => by simp at h⟩
    · obtain ⟨b, off, spot⟩ := a
      have hsp : spot = none := by
        have := World.cell?_spot ((hF 0 h0).1 0 _ rfl)
        simpa [Addr.add] using this
      subst hsp
      have hmem : ∀ x ∈ (List.range len).map F, ∃ i, i < len ∧ F i = x := fun x hx => by
        obtain ⟨i, hi, e⟩ := List.mem_map.1 hx
        exact ⟨i, List.mem_range.1 hi, e⟩
      have hll : ((List.range len).map F).length = len := by simp
      refine ⟨(List.range len).map F, hll, ⟨fun _ => ⟨b, off, rfl, fun j x hx => ?_⟩⟩, fun x hx => ?_, fun x hx => ?_, fun x hx => ?_, by rw [hll]; omega, fun _ => by rw [hll]; exact hb⟩
      · have hl6 := Rw.El.Ok.len (E := EM) okEM ((List.range len).map F)
        have hj : j < len * 6 := by
          have h2 := (List.getElem?_eq_some_iff.1 hx).1
          rw [hl6, hll] at h2; exact h2
        have hi : j / 6 < ((List.range len).map F).length := by rw [hll]; omega
        have h1 := Rw.flat_at EM.f 6 (fun _ => rfl) ((List.range len).map F) (j / 6) (j % 6) hi (by omega)
        have e : j / 6 * 6 + j % 6 = j := by omega
        rw [e, hx] at h1
        have h3 := (hF (j / 6) (by omega)).1 (j % 6) x (by
          rw [List.getElem_map, List.getElem_range] at h1
          exact h1.symm)
        rw [add_plain, add_plain, Nat.add_assoc, e] at h3
        exact h3
      · obtain ⟨i, hi, rfl⟩ := hmem x hx
        exact (hF i hi).2.1
      · obtain ⟨i, hi, rfl⟩ := hmem x hx
        exact (hF i hi).2.2.1
      · obtain ⟨i, hi, rfl⟩ := hmem x hx
        exact (hF i hi).2.2.2.1
theorem steps_B {L : List Mt} {n : Nat} (hI : ∀ m ∈ L, StI m.s) (h : L.length + sumN (L.map Mt.s) + (sumS (L.map Mt.s) + sumB (L.map Mt.s)) < n + 1) (hn : n ≤ 1048576) : StB (L.map Mt.s) := by
  refine ⟨fun s hs => ?_, by rw [List.length_map]; omega, by omega, by omega, by omega⟩
  obtain ⟨m, hm, rfl⟩ := List.mem_map.1 hs
  exact hI m hm
end Go.Proofs.YtojnlngpgbcimaaDoor
set_option linter.unusedVariables false
set_option linter.unusedSimpArgs false
namespace Go.Proofs.YtojnlngpgbcimaaDoor
open Go.ChangeShapes Go.WideShapes Go.ChangeAt Go.WideMaps Go.WideElems Go.RowKit
theorem txt_small {H : Type} {d : DataW H} (hk : Rows.uptoSmall H [d] = true) : Rows.uptoBulk d ≤ 1048576 := by
  have h : Rows.uptoBulkAll [d] ≤ 1048576 := of_decide_eq_true hk
  simp only [Rows.uptoBulkAll] at h
  omega
theorem txt_reads (os : Os) {H : Type} (enc : TypeId × Value → H) : ∃ places, DataW.whole enc Tryd.prog ((World.doorLaid Tryd.prog 4000 os).forCall (fun _ _ => 0) ⟨#[], #[.slice none 0 0], []⟩).memory Tryd.f3.params.toList Rows.playTextExactSpec.vars false #[Value.slice none 0 0].toList 8 = some ([.nil], [], places) :=
  ⟨[], by kernel_rfl⟩
set_option maxRecDepth 100000 in
theorem txt_lifted (os : Os) (started : os.Started) (H : Type) (enc : TypeId × Value → H) (F : Stop.Interp) :
    ReturnsInHanded {} Tryd.checked os 3 .any ((Rows.OpenSpec.upto Rows.playTextExactSpec).preRow enc Tryd.prog Tryd.f3 Rows.playTextExactUptoRow.domain false Rows.playTextExactUptoRow.laid) (((Rows.OpenSpec.upto Rows.playTextExactSpec).at F).post enc Tryd.prog Tryd.f3 false true false false) := by
  obtain ⟨places, hx⟩ := txt_reads os enc
  refine returnsInHanded_of_row (C := Tryd.checked) (s := Rows.OpenSpec.upto Rows.playTextExactSpec) own started (by kernel_rfl) Tryd.func3
    (witness_row_at (enc := enc) (C := Tryd.checked) false (World.doorLaid Tryd.prog 4000 os) #[.slice none 0 0] rfl (by kernel_rfl) (by kernel_rfl) (by kernel_rfl)
      (OpenSpec.preRow_of_cond 8 hx (by kernel_rfl) (fun k hk => by cases hk; kernel_rfl) (by kernel_rfl) (laidMet_of_run' 8 (by kernel_rfl) (by kernel_rfl)))) ?_
  intro W base args ds gs before hval0 hW0 _ hcond _ hL0 _ _
  have hL : laidMetH Tryd.prog lst W := hL0
  have hW : DataW.Whole enc Tryd.prog Tryd.f3.params.toList Rows.playTextExactSpec.vars false W args.toList ds gs before := hW0
  have hk : Rows.uptoSmall H (ds ++ gs) = true := hcond _ rfl
  show Calls Tryd.prog 3 args W _
  have hval : ∀ (j : Nat) t v, Tryd.f3.params[j]? = some t → args[j]? = some v → Value.okWide Tryd.prog W .any base t v := hval0
  clear hval0 hW0 hL0 hcond
  have hW' := hW
  obtain ⟨p, q, hA0, hV, rfl, hfz, hnd⟩ := hW
  have hA : DataW.TrodAll enc Tryd.prog W 0 (fun _ => true) true Tryd.f3.params.toList args.toList ds p := hA0
  rw [Tryd.params3] at hA hval
  obtain ⟨v0, d0, rfl, rfl, h0⟩ := trodAll_one hA
  obtain ⟨rfl, rfl⟩ := trodVars_none hV
  obtain ⟨a0, len0, cap0, rfl⟩ := okWide_slice Tryd.underlying22 (hval 0 22 v0 rfl rfl)
  have h0k := h0
  obtain ⟨fuel0, hf0⟩ := h0
  clear hA0
  simp only [List.append_nil, List.nil_append] at hW' hk
  have hsm := txt_small hk
  have hlt0 : ∀ x ∈ p, x.block < W.heap.size := fun x hx => hW'.lt x (by simp [hx])
  have e1 : Rows.playTextExactSpec.fn H ([d0] ++ []) = { results := [.lit (.bool true)], args := [d0] } := by simp [Rows.playTextExactSpec]
  have fin : ∀ (e : Ending) (W' : World), (e = .returned (.bool true) ∧ Below W.heap.size W W') → ∃ v, e = .returned v ∧ ((Rows.OpenSpec.upto Rows.playTextExactSpec).at F).post enc Tryd.prog Tryd.f3 false true false false W #[.slice a0 len0 cap0] v W' := by
    rintro e W' ⟨rfl, hbl⟩
    refine ⟨_, rfl, _, _, _, [], p, [], hW', ?_, ?_, ?_, hbl.frame _, fun h => by cases h⟩
    · exact (show _ from by rw [show ((Rows.OpenSpec.upto Rows.playTextExactSpec).at F).fn = Rows.playTextExactSpec.fn from rfl, e1]; exact trodAll_mk1 (shut_bool Tryd.underlying4 true))
    · exact (show _ from by rw [show ((Rows.OpenSpec.upto Rows.playTextExactSpec).at F).fn = Rows.playTextExactSpec.fn from rfl, e1]; exact trodAll_mk1 (Below.trod laidOut (by kernel_rfl) (of_decide_eq_true (by kernel_rfl)) h0k hbl hlt0))
    · exact (show _ from by rw [show ((Rows.OpenSpec.upto Rows.playTextExactSpec).at F).fn = Rows.playTextExactSpec.fn from rfl, e1]; rfl)
  obtain ⟨L, hl, hE, hM, hI, _, hb1, hb2⟩ := open_steps (show DataW.trod enc Tryd.prog W 0 (fun _ => true) true fuel0 22 [.slice a0 len0 cap0] = some (d0, p) by simpa [Value.cells] using hf0)
  have hN : sumN (L.map Mt.s) ≤ 1048575 := by
    by_cases h : 0 < L.length
    · have := hb2 h; omega
    · have e : L = [] := List.length_eq_zero_iff.1 (by omega)
      subst e; simp [sumN]
  subst hl
  exact (law_text L hE hM (steps_B hI hb1 hsm) hN (pow_of hL)).mono fin
theorem txt_row : Rows.PlayTextExactUptoSaid :=
  OpenClaim.holds_of_cond 3 Tryd.f3 rfl rfl rfl rfl rfl rfl rfl ⟨rfl, rfl, rfl, rfl, rfl⟩ rfl rfl rfl rfl rfl (by kernel_rfl) Tryd.func3 (by kernel_rfl)
    (of_decide_eq_true (by kernel_rfl)) (by unfold Func.isWrapper; first | (rw [if_pos (by decide +kernel)]; kernel_rfl) | (rw [if_neg (by decide +kernel)]; exact ⟨rfl, rfl⟩))
    (fun os started H enc _ F => by rw [OpenClaim.pre_eq_preRow]; exact txt_lifted os started H enc F)
theorem txt_plain (f : FuncId) (fn : Func) (hf : Tryd.pinned.checked.prog.funcNamed "kindred/kindredlaw26.PlayTextExact" = some f) (hfn : Tryd.pinned.checked.prog.funcs[f]? = some fn) :
    true = Tryd.pinned.checked.prog.looks [] ∧ ∀ (j : Nat) t, fn.params[j]? = some t → Tryd.pinned.checked.prog.wantsStandIn t = false := by
  obtain rfl : f = 3 := Option.some.inj ((show Tryd.prog.funcNamed "kindred/kindredlaw26.PlayTextExact" = some 3 by kernel_rfl).symm.trans hf) |>.symm
  obtain rfl : fn = Tryd.f3 := (Option.some.inj (Tryd.func3.symm.trans hfn)).symm
  refine ⟨by kernel_rfl, fun j t ht => ?_⟩
  rw [Tryd.params3] at ht
  have hm : t ∈ [22] := by simpa using Array.mem_of_getElem? ht
  have hall : ([22].all fun u => !Tryd.prog.wantsStandIn u) = true := by kernel_rfl
  exact (show Tryd.prog.wantsStandIn t = false by simpa using List.all_eq_true.1 hall t hm)
theorem txt_holds : Rows.PlayTextExactUptoCardSaid :=
  Claim7.holds_tied_plain_at .later [] _ _ _ _ txt_row (fun _ h => by cases h) (by kernel_rfl) (fun _ h => by cases h) playTextExactUpto_row_tie rfl ⟨rfl, rfl⟩ (by kernel_rfl) rfl txt_plain (by kernel_rfl)
#print axioms txt_holds
end Go.Proofs.YtojnlngpgbcimaaDoor
