/-
  DERIVED. Lists of numbers, of chunks: as rows; held against one another.
-/
import Derived.Test.YtfjbabiobobboaaVRow
import Derived.Test.YtfjbabiobobboaaSplit
set_option linter.unusedVariables false
set_option linter.unusedSimpArgs false
namespace Go.Proofs.Ytfjbabiobobboaa
open Go.RowKit
theorem cell_lat {W W' : World} {p : Addr} {v : Value} (hb : Below W.heap.size W W') (h : W.cell? p = some v) : W'.cell? p = some v := (hb.cell (World.block_lt_of_cell? W p h)).trans h
theorem below_d {w w' : World} (b : Below w.drew.heap.size w.drew w') : Below w.heap.size w w' := ⟨b.os, b.tape, b.output, b.size, b.block⟩
theorem b_drew (W : World) : Below W.heap.size W W.drew := (Below.refl _ W).drew
theorem wpList_append_eq {P : Program} {w : World} {ops : Array Oper} {rest : List Oper} {o : Oper} {a : Act} {Q : Exit → Act → World → Prop} (hgd : o.guard = none) (s x : Operand) (t u : TypeId)
    (ho : o.op = .call { callee := .builtin .append, args := #[s, x], argTypes := #[t, u] }) (v xv v' : Value) (w' : World) (hs : a.eval s = v) (hx : a.eval x = xv) (hr : (Builtin.append_ #[t, u] o.type #[v, xv]).run P w = .ok v' w')
    (h : wpList P ops Q rest (a.put o.dst v') w') : wpList P ops Q (o :: rest) a w := by
  refine wpList_plain hgd fun K hK => ?_
  unfold Oper.wp execOp
  simp only [ho, resolve, invoke, builtin, Sem.run_bind, Sem.run_pure, Result.andThen_ok, List.map_toArray, List.map_cons, List.map_nil, hs, hx, hr]
  exact hK _ _ h
abbrev EI : El Int := ⟨3, 22, 38, 1, 8, .int .i64 0, fun x => [.int .i64 x]⟩
abbrev EC : El (Int × Int) := ⟨49, 27, 30, 2, 16, .agg #[.int .i64 0, .int .i64 0], fun x => [.int .i64 x.1, .int .i64 x.2]⟩
theorem okI : EI.Ok Try.prog := ⟨fun _ => rfl, fun x u hu => by simp at hu; subst hu; rfl, by decide, rfl, by decide, by kernel_rfl, Try.underlying22, by kernel_rfl, Try.underlying38, by decide⟩
theorem okC : EC.Ok Try.prog := ⟨fun _ => rfl, fun x u hu => by
  simp at hu
  rcases hu with rfl | rfl <;> rfl, by decide, rfl, by decide, by kernel_rfl, Try.underlying27, by kernel_rfl, Try.underlying30, by decide⟩
theorem flat_at {T : Type} (f : T → List Value) (sz : Nat) (hf : ∀ x, (f x).length = sz) : ∀ (l : List T) (i j : Nat) (hi : i < l.length), j < sz → (l.flatMap f)[i * sz + j]? = (f l[i])[j]?
  | x :: l, 0, j, hi, hj => by rw [List.flatMap_cons, Nat.zero_mul, Nat.zero_add, List.getElem?_append_left (by rw [hf]; exact hj)]; rfl
  | x :: l, i + 1, j, hi, hj => by
    have := flat_at f sz hf l i j (by simpa using hi) hj
    rw [List.flatMap_cons, List.getElem?_append_right (by rw [hf, Nat.succ_mul]; omega), hf]
    rw [show (i + 1) * sz + j - sz = i * sz + j from by rw [Nat.succ_mul]; omega, this]; rfl
/-- A row's cells. -/
theorem El.cells {α : Type} {E : El α} {P : Program} (ok : E.Ok P) {W : World} {v : Value} {X : List α} (h : E.Row W v X) (i : Nat) (hi : i < X.length) : ∃ g cap, v = .slice (some ⟨g, 0, none⟩) X.length cap ∧ (∀ j u, (E.f X[i])[j]? = some u → W.cell? ⟨g, i * E.sz + j, none⟩ = some u) ∧ ∀ j, W.frozen? ⟨g, j, none⟩ = false := by
  rcases h.2 with ⟨h0, hz⟩ | ⟨g, cap, cur, hv, k1, k2, k3, k4, k5, k6⟩
  · omega
  · refine ⟨g, cap, hv, fun j u hu => ?_, fun j => frozen_of_row _ _ _ _ _ k2⟩
    have hj : j < E.sz := by rw [← ok.hf X[i]]; exact (List.getElem?_eq_some_iff.1 hu).1
    have hlt : i * E.sz + j < X.length * E.sz := by
      have : (i + 1) * E.sz ≤ X.length * E.sz := Nat.mul_le_mul_right _ hi
      rw [Nat.succ_mul] at this; omega
    have := World.ownsRow.cellAt (by rw [hv] at h; exact h) (i * E.sz + j) hlt
    rw [this, flat_at E.f E.sz ok.hf X i j hi hj, hu]
theorem intRow {W : World} {v : Value} {X : List Int} (h : EI.Row W v X) (i : Nat) (hi : i < X.length) : ∃ g cap, v = .slice (some ⟨g, 0, none⟩) X.length cap ∧ W.cell? ⟨g, i, none⟩ = some (.int .i64 X[i]) ∧ ∀ j, W.frozen? ⟨g, j, none⟩ = false := by
  obtain ⟨g, cap, e, h1, h2⟩ := El.cells okI h i hi
  exact ⟨g, cap, e, by have := h1 0 _ rfl; simpa using this, h2⟩
theorem chRow {W : World} {v : Value} {X : List (Int × Int)} (h : EC.Row W v X) (i : Nat) (hi : i < X.length) : ∃ g cap, v = .slice (some ⟨g, 0, none⟩) X.length cap ∧ W.cell? ⟨g, i * 2, none⟩ = some (.int .i64 X[i].1) ∧ W.cell? ⟨g, i * 2 + 1, none⟩ = some (.int .i64 X[i].2) ∧ ∀ j, W.frozen? ⟨g, j, none⟩ = false := by
  obtain ⟨g, cap, e, h1, h2⟩ := El.cells okC h i hi
  exact ⟨g, cap, e, h1 0 _ rfl, h1 1 _ rfl, h2⟩
theorem flat1 : ∀ (X : List Int) (i : Nat) (x : Int), i < X.length → ((X.flatMap EI.f).set i (.int .i64 x)) = (X.set i x).flatMap EI.f
  | [], _, _, h => by simp at h
  | y :: X, 0, x, _ => by simp
  | y :: X, i + 1, x, h => by
    have ih := flat1 X i x (by simpa using h)
    simp only [List.flatMap_cons, List.set_cons_succ]
    rw [show [Value.int .i64 y] ++ List.flatMap EI.f X = Value.int .i64 y :: List.flatMap EI.f X from rfl, List.set_cons_succ, ih]; rfl
theorem flat2 : ∀ (X : List (Int × Int)) (i : Nat) (x : Int × Int), i < X.length → (((X.flatMap EC.f).set (i * 2) (.int .i64 x.1)).set (i * 2 + 1) (.int .i64 x.2)) = (X.set i x).flatMap EC.f
  | [], _, _, h => by simp at h
  | y :: X, 0, x, _ => by simp
  | y :: X, i + 1, x, h => by
    have ih := flat2 X i x (by simpa using h)
    have hh : ∀ (L : List Value) (j : Nat) (u : Value), (EC.f y ++ L).set ((i + 1) * 2 + j) u = EC.f y ++ L.set (i * 2 + j) u := fun L j u => by
      rw [List.set_append_right _ _ (by show 2 ≤ _; omega)]
      congr 2; show (i + 1) * 2 + j - 2 = _; omega
    have h0 := fun L u => hh L 0 u
    simp only [Nat.add_zero] at h0
    rw [List.flatMap_cons, h0, hh, ih, List.set_cons_succ, List.flatMap_cons]
theorem intSet {W : World} {g cap n : Nat} {X : List Int} (h : EI.Row W (.slice (some ⟨g, 0, none⟩) n cap) X) (hn : n = X.length) (i : Nat) (hi : i < X.length) (x : Int) : EI.Row (W.setCell ⟨g, i, none⟩ (.int .i64 x)) (.slice (some ⟨g, 0, none⟩) n cap) (X.set i x) := by
  subst hn
  show (W.setCell ⟨g, i, none⟩ (.int .i64 x)).ownsRow 0 3 1 _ (X.set i x).length _
  rw [List.length_set, ← flat1 X i x hi]
  exact (World.ownsRow.stored h _ _).1
def put2 (W : World) (g i : Nat) (x : Int × Int) : World := (W.setCell ⟨g, i * 2, none⟩ (.int .i64 x.1)).setCell ⟨g, i * 2 + 1, none⟩ (.int .i64 x.2)
theorem chSet {W : World} {g cap n : Nat} {X : List (Int × Int)} (h : EC.Row W (.slice (some ⟨g, 0, none⟩) n cap) X) (hn : n = X.length) (i : Nat) (hi : i < X.length) (x : Int × Int) : EC.Row (put2 W g i x) (.slice (some ⟨g, 0, none⟩) n cap) (X.set i x) := by
  subst hn
  show (put2 W g i x).ownsRow 0 49 2 _ (X.set i x).length _
  rw [List.length_set, ← flat2 X i x hi]
  exact (World.ownsRow.stored (World.ownsRow.stored h _ _).1 _ _).1
/-- Elements that lie somewhere. -/
structure El.At {α : Type} (E : El α) (w : World) (la : Option Addr) (l : List α) : Prop where
  at' : l ≠ [] → ∃ g off, la = some ⟨g, off, none⟩ ∧ ∀ j x, (l.flatMap E.f)[j]? = some x → w.cell? ⟨g, off + j, none⟩ = some x
theorem El.At.below {α : Type} {E : El α} {w w' : World} {la : Option Addr} {l : List α} (h : E.At w la l) (b : Below w.heap.size w w') : E.At w' la l := ⟨fun hn => by
  obtain ⟨g, off, e, hr⟩ := h.at' hn
  exact ⟨g, off, e, fun j x hx => cell_lat b (hr j x hx)⟩⟩
theorem El.Row.lat {α : Type} {E : El α} {W : World} {v : Value} {X : List α} (h : E.Row W v X) : ∃ a c, v = .slice a X.length c ∧ E.At W a X := by
  rcases h.2 with ⟨rfl, h0⟩ | ⟨g, cap, cur, rfl, h1, h2, h3, h4⟩
  · exact ⟨none, 0, by rw [h0], ⟨fun hn => absurd (List.eq_nil_of_length_eq_zero h0) hn⟩⟩
  · exact ⟨_, cap, rfl, ⟨fun _ => ⟨g, 0, rfl, fun j x hx => by
      have := World.ownsRow.cells h (g := g) rfl j x hx
      have e1 : (⟨g, 0, none⟩ : Addr).add j = ⟨g, 0 + j, none⟩ := by unfold Addr.add; split <;> simp_all
      rw [e1] at this; exact this⟩⟩⟩
theorem intAt {w : World} {la : Option Addr} {l : List Int} (h : EI.At w la l) (i : Nat) (hi : i < l.length) : ∃ g off, la = some ⟨g, off, none⟩ ∧ w.cell? ⟨g, off + i, none⟩ = some (.int .i64 l[i]) := by
  obtain ⟨g, off, e, h1⟩ := h.at' (fun e => by subst e; simp at hi)
  refine ⟨g, off, e, h1 i _ ?_⟩
  have := flat_at EI.f 1 (fun _ => rfl) l i 0 hi (by decide)
  simpa using this
theorem chAt {w : World} {la : Option Addr} {l : List (Int × Int)} (h : EC.At w la l) (i : Nat) (hi : i < l.length) : ∃ g off, la = some ⟨g, off, none⟩ ∧ w.cell? ⟨g, off + i * 2, none⟩ = some (.int .i64 l[i].1) ∧ w.cell? ⟨g, off + i * 2 + 1, none⟩ = some (.int .i64 l[i].2) := by
  obtain ⟨g, off, e, h1⟩ := h.at' (fun e => by subst e; simp at hi)
  refine ⟨g, off, e, h1 (i * 2) _ ?_, h1 (i * 2 + 1) _ ?_⟩
  · have := flat_at EC.f 2 (fun _ => rfl) l i 0 hi (by decide)
    simpa using this
  · have := flat_at EC.f 2 (fun _ => rfl) l i 1 hi (by decide)
    simpa using this
set_option maxHeartbeats 1000000 in
set_option maxRecDepth 100000 in
theorem sameInts_any (l : List Int) (la lb : Option Addr) (ca cb : Nat) (w : World) (ha : EI.At w la l) (hb : EI.At w lb l) (hl : l.length < 4611686018427387904) :
    Calls Try.prog 13 #[.slice la l.length ca, .slice lb l.length cb] w fun e w' => e = .returned (.bool true) ∧ Below w.heap.size w w' := by
  obtain ⟨n, hn⟩ : ∃ n, n = l.length := ⟨_, rfl⟩
  have HA := Hid.mk (And.intro ha (And.intro hb hn))
  rw [← hn] at hl ⊢
  clear ha hb hn
  go_enter Try.func13, Try.ntmps13
  go_wp2
  go_loopw [5] (fun u wr => ∃ i : Nat, u = .int .i64 i ∧ i ≤ n ∧ Drew w wr) (fun u _ => n - (intOf u).toNat)
  case atStart => exact ⟨0, rfl, Nat.zero_le _, Drew.refl _⟩
  case round =>
    obtain ⟨i, rfl, hi, hd⟩ := hrel
    by_cases hlt : i < n
    · have i1 : (i : Int) < (n : Int) := by omega
      have i2 : (0 : Int) ≤ (i : Int) := by omega
      have hil : i < l.length := by have := HA.out.2.2; omega
      obtain ⟨g1, o1, e1, x0⟩ := intAt (HA.out.1.below (hd.below _)) i hil
      obtain ⟨g2, o2, e2, y0⟩ := intAt (HA.out.2.1.below (hd.below _)) i hil
      subst e1
      subst e2
      obtain ⟨x, hx⟩ : ∃ x, x = l[i] := ⟨_, rfl⟩
      rw [← hx] at x0 y0
      have hwi : IntKind.i64.wrap ((i : Int) + 1) = ((i + 1 : Nat) : Int) := by rw [IntKind.wrap_i64]; omega
      have HD := Hid.mk hd
      clear hx hd
      go_wp2
      go_region
      all_goals
        go_wp2
        exact ⟨⟨i + 1, rfl, hlt, HD.out.drew⟩, by simp only [intOf]; omega⟩
    · have i1 : ¬ (i : Int) < (n : Int) := by omega
      go_wp2
      go_ret
      exact ⟨rfl, hd.below _⟩
set_option maxHeartbeats 1000000 in
set_option maxRecDepth 100000 in
theorem sameChunks_any (l : List (Int × Int)) (la lb : Option Addr) (ca cb : Nat) (w : World) (ha : EC.At w la l) (hb : EC.At w lb l) (hl : l.length < 4611686018427387904) :
    Calls Try.prog 9 #[.slice la l.length ca, .slice lb l.length cb] w fun e w' => e = .returned (.bool true) ∧ Below w.heap.size w w' := by
  obtain ⟨n, hn⟩ : ∃ n, n = l.length := ⟨_, rfl⟩
  have HA := Hid.mk (And.intro ha (And.intro hb hn))
  rw [← hn] at hl ⊢
  clear ha hb hn
  go_enter Try.func9, Try.ntmps9
  go_wp2
  go_loopw [5] (fun u wr => ∃ i : Nat, u = .int .i64 i ∧ i ≤ n ∧ Drew w wr) (fun u _ => n - (intOf u).toNat)
  case atStart => exact ⟨0, rfl, Nat.zero_le _, Drew.refl _⟩
  case round =>
    obtain ⟨i, rfl, hi, hd⟩ := hrel
    by_cases hlt : i < n
    · have i1 : (i : Int) < (n : Int) := by omega
      have i2 : (0 : Int) ≤ (i : Int) := by omega
      have hil : i < l.length := by have := HA.out.2.2; omega
      obtain ⟨g1, o1, e1, x0, x1⟩ := chAt (HA.out.1.below (hd.below _)) i hil
      obtain ⟨g2, o2, e2, y0, y1⟩ := chAt (HA.out.2.1.below (hd.below _)) i hil
      subst e1
      subst e2
      obtain ⟨x, hx⟩ : ∃ x, x = l[i] := ⟨_, rfl⟩
      rw [← hx] at x0 y0 x1 y1
      have hwi : IntKind.i64.wrap ((i : Int) + 1) = ((i + 1 : Nat) : Int) := by rw [IntKind.wrap_i64]; omega
      have HD := Hid.mk hd
      clear hx hd
      go_wp2
      go_region
      all_goals
        go_wp2
        exact ⟨⟨i + 1, rfl, hlt, HD.out.drew⟩, by simp only [intOf]; omega⟩
    · have i1 : ¬ (i : Int) < (n : Int) := by omega
      go_wp2
      go_ret
      exact ⟨rfl, hd.below _⟩
end Go.Proofs.Ytfjbabiobobboaa
