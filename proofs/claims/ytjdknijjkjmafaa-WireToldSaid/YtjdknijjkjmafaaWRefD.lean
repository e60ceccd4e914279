/-
  DERIVED. The document's Told.
-/
import Derived.Test.YtjdknijjkjmafaaWRefH
import Derived.Test.YtjdknijjkjmafaaWDrop
import Derived.BigRegion
set_option linter.unusedVariables false
set_option linter.unusedSimpArgs false
namespace Go.Proofs.Ytjdknijjkjmafaa
open Go.RowKit Go.Proofs.SealMath
/-- The boxes of the document's Told: the result, the reader, the reply. -/
structure TQ (w W : World) (r g : Nat) (b : ByteArray) (s : RS) (C : Array Value) : Prop where
  res : HC W w.heap.size #[.int .i64 0, .int .i64 0, .string ⟨#[]⟩, .slice none 0 0] 29
  rd : RRd W r b s
  rep : HC W g C 29
  lr : w.heap.size < r
  lg : r < g
  old : Below w.heap.size w W
theorem TQ.step {w W W1 : World} {r g : Nat} {b : ByteArray} {s s1 : RS} {C : Array Value} (h : TQ w W r g b s C) (h1 : RRd W1 r b s1) (st : Stay (· = r) W W1) (o : Nat) (v : Value) : TQ w (W1.setCell ⟨g, o, none⟩ v) r g b s1 (C.setIfInBounds o v) := by
  have l1 := h.lr; have l2 := h.lg
  have st2 : Stay (· = g) W1 (W1.setCell ⟨g, o, none⟩ v) := (Stay.refl (· = g) W1).setCell (p := ⟨g, o, none⟩) (fun _ => rfl) v
  exact ⟨(h.res.stay st (fun e => by omega)).stay st2 (fun e => by omega), h1.stay st2 (fun e => by omega), HC.set (h.rep.stay st (fun e => by omega)) o v, h.lr, h.lg, (h.old.trans (st.toBelow (fun k hk e => by omega) h.old.size)).setCell (by show w.heap.size ≤ g; omega) _⟩
/-- What Told answers out of what was read. -/
def tdA (b : ByteArray) (s : RS) (op c N : Nat) (T : List UInt8) (L : List Ht) : Nat × (Nat × Nat × List UInt8 × List Ht) × Int := if endE b s ≠ 0 then (0, (0, 0, [], []), endE b s) else (op, (c, N, T, L), 0)
set_option maxHeartbeats 4000000 in
set_option maxRecDepth 100000 in
theorem rtold_end {t0 t1 t2 t4 t7 t9 t10 t11 t12 t13 t14 t15 t16 t17 t18 t19 t20 t21 t22 t23 t24 t25 t26 t27 t28 t29 t30 t31 t32 t33 t34 t35 t36 t37 t38 t39 t40 t41 t42 t43 t44 t45 t46 t47 t48 t49 t50 t51 t52 t53 t54 t55 t56 t57 t58 t59 : Value} (w W : World) (r g op : Nat) (b : ByteArray) (hb : b.size < 4611686018427387904) (s : RS) (c N : Nat) (T : List UInt8) (v : Value) (L : List Ht) (h : TQ w W r g b s #[.int .i64 c, .int .i64 N, Tx T, v]) (hv : ∃ a n cc, v = .slice a n cc) (hrow : s.2 = 0 → HRow W v L) (hown : ∀ k, v.ownBlock = some k → w.heap.size < k ∧ k ≠ r) :
    Code.wp Try.prog (dropC 9 (Try.f9.body.getD .skip)) (bodyPost Try.prog Try.f9 fun y w' => TdO w w' y (tdA b s op c N T L)) { tmps := #[t0, t1, t2, Pt w.heap.size, t4, Pt r, .int .i64 (op : Nat), t7, Pt g, t9, t10, t11, t12, t13, t14, t15, t16, t17, t18, t19, t20, t21, t22, t23, t24, t25, t26, t27, t28, t29, t30, t31, t32, t33, t34, t35, t36, t37, t38, t39, t40, t41, t42, t43, t44, t45, t46, t47, t48, t49, t50, t51, t52, t53, t54, t55, t56, t57, t58, t59], defers := [] } W := by
  obtain ⟨va, vn, vc, rfl⟩ := hv
  have hE := ended_any b s W r hb h.rd
  obtain ⟨e, he⟩ : ∃ e, e = endE b s := ⟨_, rfl⟩
  rw [← he] at hE
  have HH := Hid.mk (And.intro h (And.intro hrow (And.intro hown he)))
  have l1 := h.lr
  have l2 := h.lg
  clear h hrow hown he
  obtain ⟨TT, hTT⟩ : ∃ TT : ByteArray, TT = ⟨T.toArray⟩ := ⟨_, rfl⟩
  have HT := Hid.mk hTT
  clear hTT
  simp only [dropC, sndC, Try.f9, Option.getD_some]
  go_upto_region 13 with (go_at_call 33; refine hE.mono ?_; clear hE; rintro y W1 ⟨rfl, st⟩)
  have H1 : Hid (HC W1 w.heap.size #[.int .i64 0, .int .i64 0, .string ⟨#[]⟩, .slice none 0 0] 29 ∧ HC W1 g #[.int .i64 c, .int .i64 N, .string TT, .slice va vn vc] 29 ∧ Below w.heap.size w W1 ∧ (s.2 = 0 → HRow W1 (.slice va vn vc) L)) := by
    obtain ⟨h, k1, k2, k3⟩ := HH.out
    exact ⟨h.res.stay st (fun e => by omega), by rw [HT.out]; exact h.rep.stay st (fun e => by omega), h.old.trans (st.toBelow (fun k hk e => by omega) h.old.size), fun e => (k1 e).stay st (fun k hk q => (k2 k hk).2 q)⟩
  obtain ⟨p, hp⟩ : ∃ p, p = w.heap.size := ⟨_, rfl⟩
  have r0 : W1.cell? ⟨w.heap.size, 0, none⟩ = some (.int .i64 0) := HC.cell H1.out.1 rfl
  have r1 : W1.cell? ⟨w.heap.size, 1, none⟩ = some (.int .i64 0) := HC.cell H1.out.1 rfl
  have r2 : W1.cell? ⟨w.heap.size, 2, none⟩ = some (.string ⟨#[]⟩) := HC.cell H1.out.1 rfl
  have r3 : W1.cell? ⟨w.heap.size, 3, none⟩ = some (.slice none 0 0) := HC.cell H1.out.1 rfl
  have f0 := HC.free H1.out.1 0
  have f1 := HC.free H1.out.1 1
  have f2 := HC.free H1.out.1 2
  have f3 := HC.free H1.out.1 3
  have g0 : W1.cell? ⟨g, 0, none⟩ = some (.int .i64 c) := HC.cell H1.out.2.1 rfl
  have g1 : W1.cell? ⟨g, 1, none⟩ = some (.int .i64 N) := HC.cell H1.out.2.1 rfl
  have g2 : W1.cell? ⟨g, 2, none⟩ = some (.string TT) := HC.cell H1.out.2.1 rfl
  have g3 : W1.cell? ⟨g, 3, none⟩ = some (.slice va vn vc) := HC.cell H1.out.2.1 rfl
  by_cases h0 : e = 0
  · have hne : (e != 0) = false := by simpa using h0
    obtain ⟨K9, S9⟩ := put4 H1.out.1 (.int .i64 c) (.int .i64 N) (.string TT) (.slice va vn vc)
    have hk9 := H1.out.2.1.stay S9 (fun e => by omega)
    have HK := Hid.mk (And.intro K9 S9)
    have q9 := And.intro (HC.cell (v := .int .i64 c) (o := 0) hk9 rfl) (And.intro (HC.cell (v := .int .i64 N) (o := 1) hk9 rfl) (And.intro (HC.cell (v := .string TT) (o := 2) hk9 rfl) (HC.cell (v := .slice va vn vc) (o := 3) hk9 rfl)))
    clear K9 S9 hk9
    go_upto_region 15 with fail
    refine wp_region_held_drew (S := fun w' => w'.cell? ⟨g, 0, none⟩ = some (.int .i64 c) ∧ w'.cell? ⟨g, 1, none⟩ = some (.int .i64 N) ∧ w'.cell? ⟨g, 2, none⟩ = some (.string TT) ∧ w'.cell? ⟨g, 3, none⟩ = some (.slice va vn vc)) (by kernel_rfl) ?_ (fun hHeld => ?_)
    · exact ⟨g0, g1, g2, g3⟩
    refine wpAnyH_take (i := 0) (oi := { dst := some 58, op := Op.move (Operand.tmp 6), type := 3, pos := "read.go:155", after := #[], guard := none }) (v := ?vd0) rfl (by kernel_rfl) (by kernel_rfl) (by kernel_rfl) (fun _ _ _ h => h) (Or.inl ⟨by rfl, ?hd0⟩) (by assumption) ?rd0
    case hd0 => (intro w0 hSw; (try dsimp only at hSw); go_simp; try (with_reducible rfl))
    simp only [Act.put, List.setIfInBounds_toArray, List.set_cons_zero, List.set_cons_succ]
    refine wpAnyH_take (i := 1) (oi := { dst := some 59, op := Op.load 29 (Operand.tmp 8), type := 29, pos := "read.go:155", after := #[{ on := 2, ground := Ground.gcOnly Departure.lateStores }], guard := none }) (v := ?vd1) rfl (by kernel_rfl) (by kernel_rfl) (by kernel_rfl) (fun _ _ _ h => h) (Or.inl ⟨by rfl, ?hd1⟩) (by assumption) ?rd1
    case hd1 => (intro w0 hSw; (try dsimp only at hSw); go_simp; try (with_reducible rfl))
    simp only [Act.put, List.setIfInBounds_toArray, List.set_cons_zero, List.set_cons_succ]
    refine wpAnyH_take (i := 2) (oi := { dst := some 2, op := Op.assign (Operand.tmp 58), type := 3, pos := "read.go:155", after := #[{ on := 0, ground := Ground.data }, { on := 0, ground := Ground.phase }, { on := 1, ground := Ground.textOnly Departure.lateStores }], guard := none }) (v := ?vd2) rfl (by kernel_rfl) (by kernel_rfl) (by kernel_rfl) (fun _ _ _ h => h) (Or.inl ⟨by rfl, ?hd2⟩) (by assumption) ?rd2
    case hd2 => (intro w0 hSw; (try dsimp only at hSw); go_simp; try (with_reducible rfl))
    simp only [Act.put, List.setIfInBounds_toArray, List.set_cons_zero, List.set_cons_succ]
    refine wpAnyH_ready (rs := [3]) (by kernel_rfl) (by simp) ?_
    refine AllReadyH.cons rfl (fun K hK => ?_) AllReadyH.nil
    go_simp
    go_wp2_with (fail)
    refine hK.out _ _ ?_ (fun hHeld => ?_)
    · exact q9
    clear hK K
    refine wpAnyH_take (i := 4) (oi := { dst := some 4, op := Op.assign (Operand.const (Value.int IntKind.i64 0)), type := 3, pos := "read.go:155", after := #[{ on := 3, ground := Ground.chain }, { on := 0, ground := Ground.phase }, { on := 1, ground := Ground.phase }, { on := 2, ground := Ground.phase }, { on := 3, ground := Ground.phase }], guard := none }) (v := ?vd4) rfl (by kernel_rfl) (by kernel_rfl) (by kernel_rfl) (fun _ _ _ h => h) (Or.inl ⟨by rfl, ?hd4⟩) (by assumption) ?rd4
    case hd4 => (intro w0 hSw; (try dsimp only at hSw); go_simp; try (with_reducible rfl))
    simp only [Act.put, List.setIfInBounds_toArray, List.set_cons_zero, List.set_cons_succ]
    refine wpAnyH_done (by kernel_rfl) ?_ _
    go_wp2
    obtain ⟨W9, hW9⟩ : ∃ W9, W9 = ((((W1.setCell ⟨w.heap.size, 0, none⟩ (.int .i64 c)).setCell ⟨w.heap.size, 1, none⟩ (.int .i64 N)).setCell ⟨w.heap.size, 2, none⟩ (.string TT)).setCell ⟨w.heap.size, 3, none⟩ (.slice va vn vc)).drew := ⟨_, rfl⟩
    have HK9 : Hid (HC W9 w.heap.size #[.int .i64 c, .int .i64 N, .string TT, .slice va vn vc] 29 ∧ Stay (· = w.heap.size) W1 W9) := by rw [hW9]; exact ⟨HK.out.1, HK.out.2.drew⟩
    rw [← hW9]
    have v0 : W9.cell? ⟨w.heap.size, 0, none⟩ = some (.int .i64 c) := HC.cell HK9.out.1 rfl
    have v1 : W9.cell? ⟨w.heap.size, 1, none⟩ = some (.int .i64 N) := HC.cell HK9.out.1 rfl
    have v2 : W9.cell? ⟨w.heap.size, 2, none⟩ = some (.string TT) := HC.cell HK9.out.1 rfl
    have v3 : W9.cell? ⟨w.heap.size, 3, none⟩ = some (.slice va vn vc) := HC.cell HK9.out.1 rfl
    refine bodyPost_ret (v := .tuple #[.int .i64 op, .agg #[(.int .i64 c), (.int .i64 N), (.string TT), (.slice va vn vc)], .int .i64 0]) (by simp [results, go_sem, v0, v1, v2, v3]; try rfl) rfl ?_
    have hz : endE b s = 0 := by rw [← HH.out.2.2.2]; exact h0
    have hs0 : s.2 = 0 := by
      unfold endE at hz
      split at hz
      · cases hz
      · exact hz
    unfold tdA
    rw [if_neg (fun h => h hz)]
    refine ⟨.slice va vn vc, by rw [HT.out], (H1.out.2.2.2 hs0).stay HK9.out.2 (fun k hk e => by have := (HH.out.2.2.1 k hk).1; omega), fun k hk => Nat.le_of_lt (HH.out.2.2.1 k hk).1, H1.out.2.2.1.trans (HK9.out.2.toBelow (fun k hk e => by omega) H1.out.2.2.1.size)⟩
  · have hne : (e != 0) = true := by simpa using h0
    obtain ⟨K9, S9⟩ := put4 H1.out.1 (.int .i64 0) (.int .i64 0) (.string ⟨#[]⟩) (.slice none 0 0)
    have HK := Hid.mk (And.intro K9 S9)
    clear K9 S9
    go_wp2
    obtain ⟨W9, hW9⟩ : ∃ W9, W9 = ((((W1.setCell ⟨w.heap.size, 0, none⟩ (.int .i64 0)).setCell ⟨w.heap.size, 1, none⟩ (.int .i64 0)).setCell ⟨w.heap.size, 2, none⟩ (.string ⟨#[]⟩)).setCell ⟨w.heap.size, 3, none⟩ (.slice none 0 0)) := ⟨_, rfl⟩
    rw [← hW9] at HK ⊢
    have v0 : W9.cell? ⟨w.heap.size, 0, none⟩ = some (.int .i64 0) := HK.out.1.cell rfl
    have v1 : W9.cell? ⟨w.heap.size, 1, none⟩ = some (.int .i64 0) := HK.out.1.cell rfl
    have v2 : W9.cell? ⟨w.heap.size, 2, none⟩ = some (.string ⟨#[]⟩) := HK.out.1.cell rfl
    have v3 : W9.cell? ⟨w.heap.size, 3, none⟩ = some (.slice none 0 0) := HK.out.1.cell rfl
    refine bodyPost_ret (v := .tuple #[.int .i64 0, .agg #[(.int .i64 0), (.int .i64 0), (.string ⟨#[]⟩), (.slice none 0 0)], .int .i64 e]) (by simp [results, go_sem, v0, v1, v2, v3]; try rfl) rfl ?_
    have hz : endE b s ≠ 0 := by rw [← HH.out.2.2.2]; exact h0
    unfold tdA
    rw [if_pos hz]
    exact ⟨_, by rw [HH.out.2.2.2]; rfl, World.ownsRow_nil _ _ _ _, (fun k hk => by cases hk), H1.out.2.2.1.trans (HK.out.2.toBelow (fun k hk e => by omega) H1.out.2.2.1.size)⟩
set_option maxHeartbeats 1000000 in
theorem tells_zero (w : World) : Calls Try.prog 21 #[.int .i64 0] w fun e w' => e = .returned (.tuple #[.bool false, .bool false, .bool false]) ∧ w' = w := by
  go_enter Try.func21, Try.ntmps21
  go_wp2
  refine bodyPost_ret (v := .tuple #[.bool false, .bool false, .bool false]) (by simp [results, Try.results21, go_sem]; try rfl) rfl ?_
  exact ⟨rfl, rfl⟩
theorem rdM_U (b : ByteArray) (s : RS) : (rdM 999 13 b s).1 = (rdU 999 13 b s).1 ∧ (rdM 999 13 b s).2.2 = (rdU 999 13 b s).2.2 ∧ ((rdM 999 13 b s).2.2 = 0 → (rdM 999 13 b s).2.1 = (rdU 999 13 b s).2.1) := by
  unfold rdM rdU rdN
  by_cases h1 : s.2 ≠ 0
  · simp [h1]
  · by_cases h2 : (vA b s.1).2.2 ≠ 0
    · simp [h1, h2]
    · by_cases h3 : 9223372036854775807 < (vA b s.1).1
      · have h4 : 999 < (vA b s.1).1 := by omega
        simp [h1, h2, h3, h4]
      · by_cases h4 : 999 < (vA b s.1).1
        · simp [h1, h2, h3, h4]
        · simp [h1, h2, h3, h4]
theorem rtwo_rep (w : World) (b : ByteArray) : HC ((w.alloc (.cells #[.int .i64 0, .int .i64 0, .string ⟨#[]⟩, .slice none 0 0] 29)).alloc (.cells #[.string b, .int .i64 0, .int .i64 0] 78)) w.heap.size #[.int .i64 0, .int .i64 0, .string ⟨#[]⟩, .slice none 0 0] 29 ∧ HC ((w.alloc (.cells #[.int .i64 0, .int .i64 0, .string ⟨#[]⟩, .slice none 0 0] 29)).alloc (.cells #[.string b, .int .i64 0, .int .i64 0] 78)) (w.heap.size + 1) #[.string b, .int .i64 0, .int .i64 0] 78 ∧ Below w.heap.size w ((w.alloc (.cells #[.int .i64 0, .int .i64 0, .string ⟨#[]⟩, .slice none 0 0] 29)).alloc (.cells #[.string b, .int .i64 0, .int .i64 0] 78)) := by
  refine ⟨HC.alloc (HC.new w _ _) _, ?_, ((Below.refl _ w).alloc (Nat.le_refl _) _).alloc (by simp) _⟩
  have := HC.new (w.alloc (.cells #[.int .i64 0, .int .i64 0, .string ⟨#[]⟩, .slice none 0 0] 29)) #[.string b, .int .i64 0, .int .i64 0] 78
  have e : (w.alloc (.cells #[.int .i64 0, .int .i64 0, .string ⟨#[]⟩, .slice none 0 0] 29)).heap.size = w.heap.size + 1 := by simp
  rw [e] at this
  exact this
/-- What is read behind the code: what the operation tells. -/
def rdK (b1 b2 b3 : Bool) (b : ByteArray) (s : RS) : (Nat × List UInt8 × List Ht) × RS :=
  if b1 then ((0, (rdT b s).1, []), (rdT b s).2) else if b2 then (((rdN b s).1, [], []), (rdN b s).2) else if b3 then ((0, [], (rdHs b s).1), (rdHs b s).2) else ((0, [], []), s)
set_option maxHeartbeats 8000000 in
set_option maxRecDepth 100000 in
theorem rtold_k (b : ByteArray) (w : World) (hb : b.size < 4611686018427387904) (op : Nat) (hop : bgN 82 b = op) (b1 b2 b3 : Bool) (hone : (b1 = true → b2 = false ∧ b3 = false) ∧ (b2 = true → b3 = false))
    (hT : ∀ W, Calls Try.prog 21 #[.int .i64 op] W fun e w' => e = .returned (.tuple #[.bool b1, .bool b2, .bool b3]) ∧ w' = W)
    (s1 : RS) (c : Nat) (hc : (rdM 999 13 b (2, (hdX 82 b).1)).1 = c) (hs : (rdM 999 13 b (2, (hdX 82 b).1)).2.2 = s1.2) (hs' : (rdM 999 13 b (2, (hdX 82 b).1)).2.2 = 0 → (rdM 999 13 b (2, (hdX 82 b).1)).2.1 = s1.1)
    (S : (Nat × List UInt8 × List Ht) × RS) (hS : S = if c = 0 then rdK b1 b2 b3 b s1 else ((0, [], []), s1)) :
    Calls Try.prog 9 #[.string b] w fun y w' => TdO w w' y (tdA b S.2 op c S.1.1 S.1.2.1 S.1.2.2) := by
  obtain ⟨q2, r2, s2⟩ := rtwo_rep w b
  have hbe := begun_any 82 b _ _ hb r2
  rw [hop] at hbe
  obtain ⟨w2, hw2⟩ : ∃ w2, w2 = (w.alloc (.cells #[.int .i64 0, .int .i64 0, .string ⟨#[]⟩, .slice none 0 0] 29)).alloc (.cells #[.string b, .int .i64 0, .int .i64 0] 78) := ⟨_, rfl⟩
  rw [← hw2] at q2 r2 s2 hbe
  have H2 := Hid.mk (And.intro q2 s2)
  have HW2 := Hid.mk hw2
  have HB := Hid.mk (And.intro hb (And.intro hc (And.intro hs (And.intro hs' hone))))
  have HS := Hid.mk hS
  clear q2 s2 r2 hw2 hc hs hs' hop hone hb hS
  go_enter Try.func9, Try.ntmps9
  go_upto_region 2 with fail
  rw [← HW2.out]
  go_upto_region 3 with (go_at_call 28; refine hbe.mono ?_; clear hbe; rintro e w3 ⟨rfl, rd3, st3⟩)
  have hn := rrnum_any 999 13 (by decide) (by decide) b _ w3 _ HB.out.1 rd3
  rw [HB.out.2.1] at hn
  have H3 : Hid (HC w3 w.heap.size #[.int .i64 0, .int .i64 0, .string ⟨#[]⟩, .slice none 0 0] 29 ∧ Below w.heap.size w w3) := ⟨H2.out.1.stay st3 (fun e => by omega), H2.out.2.trans (st3.toBelow (fun k hk e => by omega) H2.out.2.size)⟩
  clear rd3 st3 H2 HW2
  go_upto_region 5 with (go_at_call 29; refine hn.mono ?_; clear hn; rintro e w4 ⟨rfl, rd4, st4⟩)
  obtain ⟨r, hr⟩ : ∃ r, r = w.heap.size + 1 := ⟨_, rfl⟩
  obtain ⟨g, hg⟩ : ∃ g, g = w4.heap.size := ⟨_, rfl⟩
  have hT5 : TQ w (w4.alloc (.cells #[.int .i64 c, .int .i64 0, .string ⟨#[]⟩, .slice none 0 0] 29)) r g b s1 #[.int .i64 c, .int .i64 0, .string ⟨#[]⟩, .slice none 0 0] := by
    have rd5 := rd4.to HB.out.2.2.1 HB.out.2.2.2.1
    have hl := rd5.lt
    rw [hr, hg]
    exact ⟨(H3.out.1.stay st4 (fun e => by omega)).alloc _, rd5.below ((Below.refl _ w4).alloc (Nat.le_refl _) _), HC.new w4 _ _, by omega, hl, (H3.out.2.trans (st4.toBelow (fun k hk e => by omega) H3.out.2.size)).alloc (by have := H3.out.2.size; have := st4.size; omega) _⟩
  obtain ⟨w5, hw5⟩ : ∃ w5, w5 = w4.alloc (.cells #[.int .i64 c, .int .i64 0, .string ⟨#[]⟩, .slice none 0 0] 29) := ⟨_, rfl⟩
  rw [← hw5] at hT5 ⊢
  rw [← hr, ← hg]
  have H5 := Hid.mk hT5
  clear hw5 hT5 rd4 st4 H3 hg hr
  by_cases h0 : c = 0
  · subst h0
    cases b1 with
    | true =>
      obtain ⟨rfl, rfl⟩ := HB.out.2.2.2.2.1 rfl
      have hS : S = ((0, (rdT b s1).1, []), (rdT b s1).2) := by rw [HS.out]; rfl
      subst hS
      have hA := rrtext_any b s1 w5 r HB.out.1 H5.out.rd
      go_upto_region 10 with (first
        | (go_at_call 21; refine (hT _).mono ?_; clear hT; rintro e w6 ⟨rfl, hw6⟩; replace hw6 := hw6.symm; subst hw6)
        | (go_at_call 30; refine hA.mono ?_; clear hA; rintro e w6 ⟨rfl, rd6, st6⟩; have k6 := H5.out.step rd6 st6 2 (Tx (rdT b s1).1); have g6 := H5.out.rep.stay st6 (fun e => by have := H5.out.lg; omega); have y6 : w6.cell? ⟨g, 2, none⟩ = some (.string ⟨#[]⟩) := HC.cell g6 rfl; have z6 := HC.free g6 2)
        | fail)
      rename_i K2 a2 K3 a3
      have HC2 := Hid.mk a2
      clear a2
      have H6 := Hid.mk k6
      clear k6 g6 y6 z6 rd6 st6
      go_wp2
      exact HC2.out _ _ (rtold_end w _ r g op b HB.out.1 (rdT b s1).2 0 0 (rdT b s1).1 (.slice none 0 0) [] H6.out ⟨_, _, _, rfl⟩ (fun _ => World.ownsRow_nil _ _ _ _) (fun k hk => by cases hk))
    | false =>
      cases b2 with
      | true =>
        obtain rfl := HB.out.2.2.2.2.2 rfl
        have hS : S = (((rdN b s1).1, [], []), (rdN b s1).2) := by rw [HS.out]; rfl
        subst hS
        have hA := rany_any b s1 w5 r HB.out.1 H5.out.rd
        go_upto_region 10 with (first
          | (go_at_call 21; refine (hT _).mono ?_; clear hT; rintro e w6 ⟨rfl, hw6⟩; replace hw6 := hw6.symm; subst hw6)
          | (go_at_call 31; refine hA.mono ?_; clear hA; rintro e w6 ⟨rfl, rd6, st6⟩; have k6 := H5.out.step rd6 st6 1 (.int .i64 (rdN b s1).1); have g6 := H5.out.rep.stay st6 (fun e => by have := H5.out.lg; omega); have y6 : w6.cell? ⟨g, 1, none⟩ = some (.int .i64 0) := HC.cell g6 rfl; have z6 := HC.free g6 1)
          | fail)
        rename_i K2 a2 K3 a3
        have HC2 := Hid.mk a2
        clear a2
        have H6 := Hid.mk k6
        clear k6 g6 y6 z6 rd6 st6
        go_wp2
        exact HC2.out _ _ (rtold_end w _ r g op b HB.out.1 (rdN b s1).2 0 (rdN b s1).1 [] (.slice none 0 0) [] H6.out ⟨_, _, _, rfl⟩ (fun _ => World.ownsRow_nil _ _ _ _) (fun k hk => by cases hk))
      | false =>
        cases b3 with
        | true =>
          have hS : S = ((0, [], (rdHs b s1).1), (rdHs b s1).2) := by rw [HS.out]; rfl
          subst hS
          have hA := dhits_any b s1 w5 r HB.out.1 H5.out.rd
          go_upto_region 10 with (first
            | (go_at_call 21; refine (hT _).mono ?_; clear hT; rintro e w6 ⟨rfl, hw6⟩; replace hw6 := hw6.symm; subst hw6)
            | fail)
          rename_i K2 a2 K3 a3
          have HC2 := Hid.mk a2
          clear a2
          go_wp2_with (first
            | (go_at_call 32; refine hA.mono ?_; clear hA; rintro e w6 ⟨v, rfl, rd6, row6, ⟨va, vn, vc, rfl⟩, own6, st6⟩; have k6 := H5.out.step rd6 st6 3 (.slice va vn vc); have g6 := H5.out.rep.stay st6 (fun e => by have := H5.out.lg; omega); have y6 : w6.cell? ⟨g, 3, none⟩ = some (.slice none 0 0) := HC.cell g6 rfl; have z6 := HC.free g6 3; have H6 := Hid.mk (And.intro k6 (And.intro row6 own6)); clear k6 row6 own6 rd6 st6 g6)
            | fail)
          have hgl := H5.out.rep.lt
          have hrl := H5.out.rd.lt
          have hlr := H5.out.lr
          exact HC2.out _ _ (rtold_end w _ r g op b HB.out.1 (rdHs b s1).2 0 0 [] (.slice va vn vc) (rdHs b s1).1 H6.out.1 ⟨_, _, _, rfl⟩ (fun e => (H6.out.2.1 e).stay (F := (· = g)) (Stay.setCell (F := (· = g)) (p := ⟨g, 3, none⟩) (Stay.refl _ w6) (fun _ => rfl) _) (fun k hk q => by have := (H6.out.2.2 k hk).1; omega)) (fun k hk => by have := (H6.out.2.2 k hk).1; omega))
        | false =>
          have hS : S = ((0, [], []), s1) := by rw [HS.out]; rfl
          subst hS
          go_upto_region 10 with (first
            | (go_at_call 21; refine (hT _).mono ?_; clear hT; rintro e w6 ⟨rfl, hw6⟩; replace hw6 := hw6.symm; subst hw6)
            | fail)
          rename_i K2 a2 K3 a3
          have HC2 := Hid.mk a2
          clear a2
          go_wp2
          exact HC2.out _ _ (rtold_end w _ r g op b HB.out.1 s1 0 0 [] (.slice none 0 0) [] H5.out ⟨_, _, _, rfl⟩ (fun _ => World.ownsRow_nil _ _ _ _) (fun k hk => by cases hk))
  · have h0b : ((c : Int) == 0) = false := by simp; omega
    have hS : S = ((0, [], []), s1) := by rw [HS.out, if_neg h0]
    subst hS
    go_upto_region 10 with (first
      | (go_at_call 21; refine (hT _).mono ?_; clear hT; rintro e w6 ⟨rfl, hw6⟩; replace hw6 := hw6.symm; subst hw6)
      | fail)
    rename_i K2 a2 K3 a3
    have HC2 := Hid.mk a2
    clear a2
    go_wp2
    exact HC2.out _ _ (rtold_end w _ r g op b HB.out.1 s1 c 0 [] (.slice none 0 0) [] H5.out ⟨_, _, _, rfl⟩ (fun _ => World.ownsRow_nil _ _ _ _) (fun k hk => by cases hk))
end Go.Proofs.Ytjdknijjkjmafaa
