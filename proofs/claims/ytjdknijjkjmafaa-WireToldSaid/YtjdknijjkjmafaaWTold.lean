/-
  DERIVED. Told: for every text.
-/
import Derived.Test.YtjdknijjkjmafaaWRdH
import Derived.Test.YtjdknijjkjmafaaWAsked
set_option linter.unusedVariables false
set_option linter.unusedSimpArgs false
namespace Go.Proofs.Ytjdknijjkjmafaa
open Go.RowKit Go.Proofs.SealMath
/-- What is read of a reply: N, Text, Hits. -/
def rdP (i : Nat) (b : ByteArray) (s : RS) : (Nat × List UInt8 × List Ht) × RS :=
  match i with
  | 2 => ((0, (rdT b s).1, []), (rdT b s).2)
  | 3 => ((0, [], (rdHs b s).1), (rdHs b s).2)
  | 4 => ((0, [], (rdHs b s).1), (rdHs b s).2)
  | 5 => (((rdN b s).1, [], []), (rdN b s).2)
  | 7 => (((rdN b s).1, [], []), (rdN b s).2)
  | _ => ((0, [], []), s)
def rdR (i : Nat) (e : Nat) (b : ByteArray) (s : RS) : (Nat × List UInt8 × List Ht) × RS := if e = 0 then rdP i b s else ((0, [], []), s)
/-- What a reply that was read leaves. -/
def RpO (w w' : World) (r g : Nat) (b : ByteArray) (e : Nat) (S : (Nat × List UInt8 × List Ht) × RS) : Prop :=
  ∃ v', RdAt w' r b S.2 ∧ HC w' g #[.int .i64 e, .int .i64 S.1.1, Tx S.1.2.1, v'] 29 ∧ HRow w' v' S.1.2.2 ∧ (∀ k, v'.ownBlock = some k → w.heap.size ≤ k) ∧ Stay (fun k => k = r ∨ k = g) w w' ∧ S.2.1 ≤ b.size
theorem rp_read (i e : Nat) (b : ByteArray) (s : RS) (w : World) (r g : Nat) (hb : b.size < 4611686018427387904) (hp : s.1 ≤ b.size) (h : RdAt w r b s) (hg : HC w g #[.int .i64 e, .int .i64 0, .string ⟨#[]⟩, .slice none 0 0] 29) :
    Calls Try.prog (rpF i) #[Pt g, (rdH r).v] w fun y w' => y = Un ∧ RpO w w' r g b e (rdP i b s) := by
  have hne : g ≠ r := HC.ne hg h (by decide)
  have lr := HC.lt h
  have lg := HC.lt hg
  have E := rdH_ent r
  have hA : HC (w.alloc (rdH r).box).drew g #[.int .i64 e, .int .i64 0, .string ⟨#[]⟩, .slice none 0 0] 29 := HC.drew (hg.alloc _)
  have rA : RdAt (w.alloc (rdH r).box).drew r b s := HC.drew (h.alloc _)
  have eA : (w.alloc (rdH r).box).drew.heap.size = w.heap.size + 1 := by simp
  have hc : i = 2 ∨ i = 3 ∨ i = 4 ∨ i = 5 ∨ i = 7 ∨ ¬ (i = 2 ∨ i = 3 ∨ i = 4 ∨ i = 5 ∨ i = 7) := by omega
  have num : Calls Try.prog 75 #[Pt g, (rdH r).v] w fun y w' => y = Un ∧ RpO w w' r g b e (((rdN b s).1, [], []), (rdN b s).2) := by
    refine number_g (rdH r) g w _ E.1 ?_
    refine (rnumber_any b s _ r g 1 _ _ hb rA hA rfl hne).mono ?_
    rintro y w1 ⟨rfl, r1, g1, s1⟩
    exact ⟨rfl, box_kept s1 lr lg, rfl, _, r1, g1, World.ownsRow_nil _ _ _ _, (fun k hk => by cases hk), box_stay s1, (rdN_le b s hp).1⟩
  have hits : Calls Try.prog 72 #[Pt g, (rdH r).v] w fun y w' => y = Un ∧ RpO w w' r g b e ((0, [], (rdHs b s).1), (rdHs b s).2) := by
    refine hits_g (rdH r) g w _ E.2.2 ?_
    refine (rhits_any b s _ r g e 0 ⟨#[]⟩ hb hp rA hA).mono ?_
    rintro y w1 ⟨rfl, v1, r1, g1, row1, own1, s1, le1⟩
    exact ⟨rfl, box_kept s1 lr lg, rfl, v1, r1, g1, row1, (fun k hk => by have := own1 k hk; omega), box_stay s1, le1⟩
  rcases hc with rfl | rfl | rfl | rfl | rfl | hi
  · refine text_g (rdH r) g w _ E.2.1 ?_
    refine (rtext_any b s _ r g 2 _ _ ⟨#[]⟩ hb hp rA hA rfl hne).mono ?_
    rintro y w1 ⟨rfl, r1, g1, s1⟩
    exact ⟨rfl, box_kept s1 lr lg, rfl, _, r1, g1, World.ownsRow_nil _ _ _ _, (fun k hk => by cases hk), box_stay s1, (rdT_le b s hp).1⟩
  · exact hits
  · exact hits
  · exact num
  · exact num
  · have e6 : rdP i b s = ((0, [], []), s) := by unfold rdP; split <;> simp_all
    rw [rpF_none hi, e6]
    exact nothingTold_g (rdH r) g w _ ⟨rfl, _, h.alloc _, hg.alloc _, World.ownsRow_nil _ _ _ _, (fun k hk => by cases hk), (Stay.refl _ w).alloc _, hp⟩
theorem named_read (i e : Nat) (b : ByteArray) (s : RS) (w : World) (r g : Nat) (hb : b.size < 4611686018427387904) (hp : s.1 ≤ b.size) (h : RdAt w r b s) (hg : HC w g #[.int .i64 e, .int .i64 0, .string ⟨#[]⟩, .slice none 0 0] 29) :
    Calls Try.prog 25 #[opV i, Pt g, (rdH r).v] w fun y w' => y = Un ∧ RpO w w' r g b e (rdR i e b s) := by
  refine named_g (i + 1) (rqF i) (rpF i) (rdH r) g w e _ (rpF_ent i) (hg.cell rfl) (fun h0 => ?_) (fun h0 => ?_)
  · have e0 : e = 0 := by omega
    refine (rp_read i e b s _ r g hb hp (HC.alloc (h.alloc _) _) (HC.alloc (hg.alloc _) _)).mono ?_
    rintro y w1 ⟨rfl, v1, r1, g1, row1, own1, s1, le1⟩
    refine ⟨rfl, rfl, ?_⟩
    unfold rdR
    rw [if_pos e0]
    exact ⟨v1, r1, g1, row1, (fun k hk => by have := own1 k hk; simp at this; omega), (((Stay.refl _ w).alloc _).alloc _).trans s1, le1⟩
  · have e0 : ¬ e = 0 := by omega
    refine ⟨rfl, ?_⟩
    unfold rdR
    rw [if_neg e0]
    exact ⟨_, HC.alloc (h.alloc _) _, HC.alloc (hg.alloc _) _, World.ownsRow_nil _ _ _ _, (fun k hk => by cases hk), ((Stay.refl _ w).alloc _).alloc _, hp⟩
/-- What Told answers: the operation, Code, N, Text, Hits, the refusal. -/
def toldA (b : ByteArray) : Nat × (Nat × Nat × List UInt8 × List Ht) × Int :=
  if (hdX 82 b).1 ≠ 0 then (0, (0, 0, [], []), (hdX 82 b).1)
  else if endE b (rdR (hdX 82 b).2 (rdU 999 13 b (2, 0)).1 b (rdU 999 13 b (2, 0)).2).2 ≠ 0 then (0, (0, 0, [], []), endE b (rdR (hdX 82 b).2 (rdU 999 13 b (2, 0)).1 b (rdU 999 13 b (2, 0)).2).2)
  else ((hdX 82 b).2 + 1, ((rdU 999 13 b (2, 0)).1, (rdR (hdX 82 b).2 (rdU 999 13 b (2, 0)).1 b (rdU 999 13 b (2, 0)).2).1), 0)
/-- The answer of Told: its reply's hits lie in memory of their own. -/
def TdO (w w' : World) (y : Ending) (A : Nat × (Nat × Nat × List UInt8 × List Ht) × Int) : Prop :=
  ∃ v, y = .returned (.tuple #[.int .i64 A.1, .agg #[.int .i64 A.2.1.1, .int .i64 A.2.1.2.1, Tx A.2.1.2.2.1, v], .int .i64 A.2.2]) ∧ HRow w' v A.2.1.2.2.2 ∧ (∀ k, v.ownBlock = some k → w.heap.size ≤ k) ∧ Below w.heap.size w w'
theorem tw_new (w : World) (b : ByteArray) : HC ((w.alloc (.cells #[.int .i64 0, .int .i64 0, .string ⟨#[]⟩, .slice none 0 0] 29)).alloc (.cells #[.string b, .int .i64 0, .int .i64 0] 60)) w.heap.size #[.int .i64 0, .int .i64 0, .string ⟨#[]⟩, .slice none 0 0] 29 ∧ RdAt ((w.alloc (.cells #[.int .i64 0, .int .i64 0, .string ⟨#[]⟩, .slice none 0 0] 29)).alloc (.cells #[.string b, .int .i64 0, .int .i64 0] 60)) (w.heap.size + 1) b (0, 0) ∧ ((w.alloc (.cells #[.int .i64 0, .int .i64 0, .string ⟨#[]⟩, .slice none 0 0] 29)).alloc (.cells #[.string b, .int .i64 0, .int .i64 0] 60)).heap.size = w.heap.size + 2 ∧ Stay (fun k => w.heap.size ≤ k) w ((w.alloc (.cells #[.int .i64 0, .int .i64 0, .string ⟨#[]⟩, .slice none 0 0] 29)).alloc (.cells #[.string b, .int .i64 0, .int .i64 0] 60)) := by
  refine ⟨HC.alloc (HC.new w _ _) _, ?_, by simp, ((Stay.refl _ w).alloc _).alloc _⟩
  have := HC.new (w.alloc (.cells #[.int .i64 0, .int .i64 0, .string ⟨#[]⟩, .slice none 0 0] 29)) #[.string b, .int .i64 0, .int .i64 0] 60
  have e : (w.alloc (.cells #[.int .i64 0, .int .i64 0, .string ⟨#[]⟩, .slice none 0 0] 29)).heap.size = w.heap.size + 1 := by simp
  rw [e] at this
  exact this
theorem put4 {w : World} {g : Nat} {a0 b0 c0 d0 : Value} {T : TypeId} (h : HC w g #[a0, b0, c0, d0] T) (a b c d : Value) :
    HC ((((w.setCell ⟨g, 0, none⟩ a).setCell ⟨g, 1, none⟩ b).setCell ⟨g, 2, none⟩ c).setCell ⟨g, 3, none⟩ d) g #[a, b, c, d] T ∧ Stay (· = g) w ((((w.setCell ⟨g, 0, none⟩ a).setCell ⟨g, 1, none⟩ b).setCell ⟨g, 2, none⟩ c).setCell ⟨g, 3, none⟩ d) :=
  ⟨HC.set (HC.set (HC.set (HC.set h 0 a) 1 b) 2 c) 3 d, ((((Stay.refl (· = g) w).setCell (p := ⟨g, 0, none⟩) (fun _ => rfl) a).setCell (p := ⟨g, 1, none⟩) (fun _ => rfl) b).setCell (p := ⟨g, 2, none⟩) (fun _ => rfl) c).setCell (p := ⟨g, 3, none⟩) (fun _ => rfl) d⟩
set_option maxHeartbeats 4000000 in
set_option maxRecDepth 100000 in
theorem told_no (b : ByteArray) (w : World) (hb : b.size < 4611686018427387904) (hx : (hdX 82 b).1 ≠ 0) :
    Calls Try.prog 8 #[.string b] w fun y w' => TdO w w' y (0, (0, 0, [], []), (hdX 82 b).1) := by
  obtain ⟨q2, r2, z2, s2⟩ := tw_new w b
  obtain ⟨p, ho⟩ := (oper_any b 82 _ _ hb r2).2 hx
  obtain ⟨x, hxe⟩ : ∃ x, x = (hdX 82 b).1 := ⟨_, rfl⟩
  rw [← hxe] at ho ⊢
  obtain ⟨r, hr⟩ : ∃ r, r = w.heap.size + 1 := ⟨_, rfl⟩
  rw [← hr] at ho r2
  have hrl : w.heap.size < r := by omega
  obtain ⟨V, hV⟩ : ∃ V, V = ((w.alloc (.cells #[.int .i64 0, .int .i64 0, .string ⟨#[]⟩, .slice none 0 0] 29)).alloc (.cells #[.string b, .int .i64 0, .int .i64 0] 60)) := ⟨_, rfl⟩
  rw [← hV] at ho r2 q2 s2
  have HH := Hid.mk (And.intro q2 (And.intro r2 s2))
  have HV := Hid.mk hV
  have hr2 : (w.alloc (.cells #[.int .i64 0, .int .i64 0, .string ⟨#[]⟩, .slice none 0 0] 29)).heap.size = r := by rw [hr]; simp
  clear hx hxe r2 q2 s2 z2 hr
  have hsf : ∀ (W : World) (p : Addr) (f : Fn) (x c : Array Value), (store p (.func f x c)).run Try.prog W = stored Try.prog W p (.func f x c) .plain := fun W p f x c => run_store Try.prog W p _ .plain rfl
  have hsn : ∀ (W : World) (p : Addr), (store p .nilFunc).run Try.prog W = stored Try.prog W p .nilFunc .plain := fun W p => run_store Try.prog W p _ .plain rfl
  go_enter Try.func8, Try.ntmps8
  go_wp2_with (go_at_call 23; rw [← HV.out]; refine ho.mono ?_; clear ho; rintro e w3 ⟨rfl, r3, s3⟩; have k3 := HH.out.1.stay s3 (fun e => by omega); have H3 := Hid.mk (And.intro k3 (And.intro r3 (HH.out.2.2.andThen s3 (fun i hi e => by omega)))); clear k3 r3 s3)
  obtain ⟨V3, hV3⟩ : ∃ V3, V3 = w3.alloc (.cells #[.int .i64 0, .nilFunc, .nilFunc] 64) := ⟨_, rfl⟩
  rw [← hV3]
  have k3 := HC.alloc H3.out.1 (.cells #[.int .i64 0, .nilFunc, .nilFunc] 64)
  have r3 := HC.alloc H3.out.2.1 (.cells #[.int .i64 0, .nilFunc, .nilFunc] 64)
  have s3 := H3.out.2.2.alloc (.cells #[.int .i64 0, .nilFunc, .nilFunc] 64)
  rw [← hV3] at k3 r3 s3
  have hrb : r ≠ w.heap.size := by omega
  clear hV3
  have c2 : V3.cell? ⟨r, 2, none⟩ = some (.int .i64 x) := HC.cell r3 rfl
  have q0 : V3.cell? ⟨w.heap.size, 0, none⟩ = some (.int .i64 0) := HC.cell k3 rfl
  have z0 := HC.free k3 0
  have q1 : V3.cell? ⟨w.heap.size, 1, none⟩ = some (.int .i64 0) := HC.cell k3 rfl
  have z1 := HC.free k3 1
  have q2 : V3.cell? ⟨w.heap.size, 2, none⟩ = some (.string ⟨#[]⟩) := HC.cell k3 rfl
  have z2 := HC.free k3 2
  have q3 : V3.cell? ⟨w.heap.size, 3, none⟩ = some (.slice none 0 0) := HC.cell k3 rfl
  have z3 := HC.free k3 3
  obtain ⟨K9, S9⟩ := put4 k3 (.int .i64 0) (.int .i64 0) (.string ⟨#[]⟩) (.slice none 0 0)
  have R9 := HC.stay r3 S9 hrb
  have d2 : ((((V3.setCell ⟨w.heap.size, 0, none⟩ (.int .i64 0)).setCell ⟨w.heap.size, 1, none⟩ (.int .i64 0)).setCell ⟨w.heap.size, 2, none⟩ (.string ⟨#[]⟩)).setCell ⟨w.heap.size, 3, none⟩ (.slice none 0 0)).drew.cell? ⟨r, 2, none⟩ = some (.int .i64 x) := HC.cell (HC.drew R9) rfl
  have HK := Hid.mk (And.intro (HC.drew K9) (S9.drew))
  have H4 := Hid.mk s3
  clear K9 S9 R9 k3 r3 s3
  refine wp_region_held_drew (S := fun w' => w'.cell? ⟨r, 2, none⟩ = some (.int .i64 x)) (by kernel_rfl) ?_ (fun hHeld => ?_)
  · exact c2
  refine wpAnyH_take (i := 0) (oi := { dst := some 18, op := Op.build 29 #[], type := 29, pos := "wire.go:78", after := #[{ on := 3, ground := Ground.gcOnly Departure.lateStores }], guard := none }) (v := ?va0) rfl (by kernel_rfl) (by kernel_rfl) (by kernel_rfl) (fun _ _ _ h => h) (Or.inl ⟨by rfl, ?ha0⟩) (by assumption) ?ra0
  case ha0 => (intro w0 hSw; (try dsimp only at hSw); go_simp; try (with_reducible rfl))
  simp only [Act.put, List.setIfInBounds_toArray, List.set_cons_zero, List.set_cons_succ]
  refine wpAnyH_take (i := 1) (oi := { dst := some 19, op := Op.fieldAddr 60 (Operand.tmp 5) 2, type := 0, pos := "wire.go:78", after := #[{ on := 4, ground := Ground.gcOnly Departure.lateStores }], guard := none }) (v := ?va1) rfl (by kernel_rfl) (by kernel_rfl) (by kernel_rfl) (fun _ _ _ h => h) (Or.inl ⟨by rfl, ?ha1⟩) (by assumption) ?ra1
  case ha1 => (intro w0 hSw; (try dsimp only at hSw); go_simp; try (with_reducible rfl))
  simp only [Act.put, List.setIfInBounds_toArray, List.set_cons_zero, List.set_cons_succ]
  refine wpAnyH_take (i := 2) (oi := { dst := some 20, op := Op.load 27 (Operand.tmp 19), type := 27, pos := "wire.go:78", after := #[{ on := 1, ground := Ground.data }, { on := 4, ground := Ground.gcOnly Departure.lateStores }], guard := none }) (v := ?va2) rfl (by kernel_rfl) (by kernel_rfl) (by kernel_rfl) (fun _ _ _ h => h) (Or.inl ⟨by rfl, ?ha2⟩) (by assumption) ?ra2
  case ha2 => (intro w0 hSw; (try dsimp only at hSw); go_simp; try (with_reducible rfl))
  simp only [Act.put, List.setIfInBounds_toArray, List.set_cons_zero, List.set_cons_succ]
  refine wpAnyH_take (i := 3) (oi := { dst := some 2, op := Op.assign (Operand.const (Value.int IntKind.i64 0)), type := 3, pos := "wire.go:78", after := #[{ on := 0, ground := Ground.textOnly Departure.lateStores }, { on := 1, ground := Ground.textOnly Departure.lateStores }, { on := 2, ground := Ground.textOnly Departure.lateStores }], guard := none }) (v := ?va3) rfl (by kernel_rfl) (by kernel_rfl) (by kernel_rfl) (fun _ _ _ h => h) (Or.inl ⟨by rfl, ?ha3⟩) (by assumption) ?ra3
  case ha3 => (intro w0 hSw; (try dsimp only at hSw); go_simp; try (with_reducible rfl))
  simp only [Act.put, List.setIfInBounds_toArray, List.set_cons_zero, List.set_cons_succ]
  refine wpAnyH_ready (rs := [4]) (by kernel_rfl) (by simp) ?_
  refine AllReadyH.cons rfl (fun K hK => ?_) AllReadyH.nil
  go_simp
  go_wp2_with (fail)
  refine hK.out _ _ ?_ (fun hHeld => ?_)
  · exact d2
  clear hK K
  refine wpAnyH_take (i := 5) (oi := { dst := some 4, op := Op.assign (Operand.tmp 20), type := 27, pos := "wire.go:78", after := #[{ on := 2, ground := Ground.data }, { on := 4, ground := Ground.chain }, { on := 0, ground := Ground.phase }, { on := 1, ground := Ground.phase }, { on := 2, ground := Ground.phase }, { on := 3, ground := Ground.phase }, { on := 4, ground := Ground.phase }], guard := none }) (v := ?va5) rfl (by kernel_rfl) (by kernel_rfl) (by kernel_rfl) (fun _ _ _ h => h) (Or.inl ⟨by rfl, ?ha5⟩) (by assumption) ?ra5
  case ha5 => (intro w0 hSw; (try dsimp only at hSw); go_simp; try (with_reducible rfl))
  simp only [Act.put, List.setIfInBounds_toArray, List.set_cons_zero, List.set_cons_succ]
  refine wpAnyH_done (by kernel_rfl) ?_ _
  go_wp2
  obtain ⟨W9, hW9⟩ : ∃ W9, W9 = ((((V3.setCell ⟨w.heap.size, 0, none⟩ (.int .i64 0)).setCell ⟨w.heap.size, 1, none⟩ (.int .i64 0)).setCell ⟨w.heap.size, 2, none⟩ (.string ⟨#[]⟩)).setCell ⟨w.heap.size, 3, none⟩ (.slice none 0 0)).drew := ⟨_, rfl⟩
  rw [← hW9] at HK ⊢
  have v0 : W9.cell? ⟨w.heap.size, 0, none⟩ = some (.int .i64 0) := HK.out.1.cell rfl
  have v1 : W9.cell? ⟨w.heap.size, 1, none⟩ = some (.int .i64 0) := HK.out.1.cell rfl
  have v2 : W9.cell? ⟨w.heap.size, 2, none⟩ = some (.string ⟨#[]⟩) := HK.out.1.cell rfl
  have v3 : W9.cell? ⟨w.heap.size, 3, none⟩ = some (.slice none 0 0) := HK.out.1.cell rfl
  refine bodyPost_ret (v := .tuple #[.int .i64 0, .agg #[(.int .i64 0), (.int .i64 0), (.string ⟨#[]⟩), (.slice none 0 0)], .int .i64 x]) (by simp [results, Try.results8, go_sem, v0, v1, v2, v3]; try rfl) rfl ?_
  exact ⟨_, rfl, World.ownsRow_nil _ _ _ _, (fun k hk => by cases hk), Stay.toBelow (F := fun k => w.heap.size ≤ k) (H4.out.andThen HK.out.2 (fun i hi e => by omega)) (fun k hk h => by omega) (Nat.le_refl _)⟩
/-- The boxes of Told: the result's, the reader, the operation, the reply. -/
structure DB (w : World) (W : World) (r o g : Nat) (b : ByteArray) (s : RS) (m f1 f2 : Nat) (C : Array Value) : Prop where
  res : HC W w.heap.size #[.int .i64 0, .int .i64 0, .string ⟨#[]⟩, .slice none 0 0] 29
  rd : RdAt W r b s
  op : HC W o #[.int .i64 m, Fv f1 #[], Fv f2 #[]] 64
  rep : HC W g C 29
  lr : w.heap.size < r
  lo : r < o
  lg : o < g
  old : Stay (fun k => w.heap.size ≤ k) w W
theorem DB.drew {w W : World} {r o g : Nat} {b : ByteArray} {s : RS} {m f1 f2 : Nat} {C : Array Value} (h : DB w W r o g b s m f1 f2 C) : DB w W.drew r o g b s m f1 f2 C := ⟨h.res, h.rd, h.op, h.rep, h.lr, h.lo, h.lg, h.old.drew⟩
theorem DB.below {w W W' : World} {r o g : Nat} {b : ByteArray} {s : RS} {m f1 f2 : Nat} {C : Array Value} (h : DB w W r o g b s m f1 f2 C) (h' : Below W.heap.size W W') : DB w W' r o g b s m f1 f2 C :=
  ⟨h.res.below h', HC.below h.rd h', h.op.below h', h.rep.below h', h.lr, h.lo, h.lg, h.old.trans (.below h')⟩
theorem DB.read {w W W' : World} {r o g : Nat} {b : ByteArray} {s s' : RS} {m f1 f2 : Nat} {C C' : Array Value} (h : DB w W r o g b s m f1 f2 C) (h1 : RdAt W' r b s') (h2 : HC W' g C' 29) (st : Stay (fun k => k = r ∨ k = g) W W') : DB w W' r o g b s' m f1 f2 C' := by
  have l1 := h.lr; have l2 := h.lo; have l3 := h.lg
  exact ⟨h.res.stay st (fun e => by rcases e with e | e <;> omega), h1, h.op.stay st (fun e => by rcases e with e | e <;> omega), h2, h.lr, h.lo, h.lg, h.old.andThen st (fun i hi e => by rcases e with e | e <;> omega)⟩
theorem db_new {w w3 w4 : World} {r : Nat} {b : ByteArray} {s s' : RS} (m f1 f2 e : Nat) (h : HC w3 w.heap.size #[.int .i64 0, .int .i64 0, .string ⟨#[]⟩, .slice none 0 0] 29) (h1 : RdAt w3 r b s) (lr : w.heap.size < r) (st : Stay (fun k => w.heap.size ≤ k) w w3) (h4 : RdAt w4 r b s') (s4 : Stay (· = r) (w3.alloc (.cells #[.int .i64 m, Fv f1 #[], Fv f2 #[]] 64)) w4) :
    DB w (w4.alloc (.cells #[.int .i64 e, .int .i64 0, .string ⟨#[]⟩, .slice none 0 0] 29)) r w3.heap.size w4.heap.size b s' m f1 f2 #[.int .i64 e, .int .i64 0, .string ⟨#[]⟩, .slice none 0 0] := by
  have l3 := h1.lt
  have e3 : (w3.alloc (.cells #[.int .i64 m, Fv f1 #[], Fv f2 #[]] 64)).heap.size = w3.heap.size + 1 := by simp
  have e4 := s4.size
  refine ⟨HC.alloc ((h.alloc _).stay s4 (fun e => by omega)) _, HC.alloc h4 _, HC.alloc (HC.stay (HC.new w3 _ _) s4 (fun e => by omega)) _, HC.new w4 _ _, lr, l3, by omega, ?_⟩
  exact ((st.alloc _).andThen s4 (fun i hi e => by omega)).alloc _
set_option maxHeartbeats 4000000 in
set_option maxRecDepth 100000 in
theorem told_ok (b : ByteArray) (w : World) (hb : b.size < 4611686018427387904) (hx : (hdX 82 b).1 = 0) :
    Calls Try.prog 8 #[.string b] w fun y w' => TdO w w' y (toldA b) := by
  obtain ⟨q2, r2, z2, s2⟩ := tw_new w b
  obtain ⟨hsz, ho⟩ := (oper_any b 82 _ _ hb r2).1 hx
  have hA : toldA b = if endE b (rdR (hdX 82 b).2 (rdU 999 13 b (2, 0)).1 b (rdU 999 13 b (2, 0)).2).2 ≠ 0 then (0, (0, 0, [], []), endE b (rdR (hdX 82 b).2 (rdU 999 13 b (2, 0)).1 b (rdU 999 13 b (2, 0)).2).2)
    else ((hdX 82 b).2 + 1, ((rdU 999 13 b (2, 0)).1, (rdR (hdX 82 b).2 (rdU 999 13 b (2, 0)).1 b (rdU 999 13 b (2, 0)).2).1), 0) := by unfold toldA; rw [if_neg (fun h => h hx)]
  obtain ⟨i, hie⟩ : ∃ i, i = (hdX 82 b).2 := ⟨_, rfl⟩
  rw [← hie] at ho hA
  have hU := fun W r h1 => upto_any b (2, 0) 999 13 W r hb hsz (by omega) h1
  have hle := rdU_le b (2, 0) 999 13 hsz
  obtain ⟨e, s1, hE⟩ : ∃ e s1, rdU 999 13 b (2, 0) = (e, s1) := ⟨_, _, rfl⟩
  rw [hE] at hU hle hA
  have hNR := fun W r g h1 h2 => named_read i e b s1 W r g hb hle.1 h1 h2
  obtain ⟨T3, s3', hT⟩ : ∃ T3 s3, rdR i e b s1 = (T3, s3) := ⟨_, _, rfl⟩
  obtain ⟨n, tx, L⟩ := T3
  rw [hT] at hNR
  simp only [hT] at hA
  have hen := fun W r h1 => end_any b s3' W r hb h1
  obtain ⟨x, hxe⟩ : ∃ x, x = endE b s3' := ⟨_, rfl⟩
  rw [← hxe] at hen hA
  obtain ⟨f1, hf1⟩ : ∃ f, f = rqF i := ⟨_, rfl⟩
  obtain ⟨f2, hf2⟩ : ∃ f, f = rpF i := ⟨_, rfl⟩
  obtain ⟨m, hm⟩ : ∃ m, m = i + 1 := ⟨_, rfl⟩
  simp only [opV, ← hf1, ← hf2, ← hm] at ho hNR hA
  obtain ⟨A3, hA3⟩ : ∃ A3, A3 = toldA b := ⟨_, rfl⟩
  rw [← hA3] at hA ⊢
  have HA := Hid.mk hA
  obtain ⟨r, hr⟩ : ∃ r, r = w.heap.size + 1 := ⟨_, rfl⟩
  rw [← hr] at ho r2
  have hrl : w.heap.size < r := by omega
  obtain ⟨V, hV⟩ : ∃ V, V = ((w.alloc (.cells #[.int .i64 0, .int .i64 0, .string ⟨#[]⟩, .slice none 0 0] 29)).alloc (.cells #[.string b, .int .i64 0, .int .i64 0] 60)) := ⟨_, rfl⟩
  rw [← hV] at ho r2 q2 s2
  have HH := Hid.mk (And.intro q2 (And.intro r2 s2))
  have HV := Hid.mk hV
  have HU := Hid.mk hU
  have HNR := Hid.mk hNR
  have HE := Hid.mk hen
  have hr2 : (w.alloc (.cells #[.int .i64 0, .int .i64 0, .string ⟨#[]⟩, .slice none 0 0] 29)).heap.size = r := by rw [hr]; simp
  clear hx hxe r2 q2 s2 z2 hr hA hA3 hE hT hf1 hf2 hm hie hU hNR hen hle hsz hV
  have hsf : ∀ (W : World) (p : Addr) (f : Fn) (x c : Array Value), (store p (.func f x c)).run Try.prog W = stored Try.prog W p (.func f x c) .plain := fun W p f x c => run_store Try.prog W p _ .plain rfl
  have hsn : ∀ (W : World) (p : Addr), (store p .nilFunc).run Try.prog W = stored Try.prog W p .nilFunc .plain := fun W p => run_store Try.prog W p _ .plain rfl
  go_enter Try.func8, Try.ntmps8
  go_wp2_with (first
    | (go_at_call 23; rw [← HV.out]; refine ho.mono ?_; clear ho; rintro y w3 ⟨rfl, r3, s3⟩; have k3 := HH.out.1.stay s3 (fun e => by omega); have H3 := Hid.mk (And.intro k3 (And.intro r3 (HH.out.2.2.andThen s3 (fun i hi e => by omega)))); clear k3 r3 s3)
    | (go_at_call 24; refine (HU.out _ r (HC.alloc H3.out.2.1 _)).mono ?_; rintro y w4 ⟨rfl, r4, s4⟩; have H4 := Hid.mk (db_new m f1 f2 e H3.out.1 H3.out.2.1 hrl H3.out.2.2 r4 s4); clear r4 s4))
  obtain ⟨V4, hV4⟩ : ∃ V4, V4 = w4.alloc (.cells #[.int .i64 e, .int .i64 0, .string ⟨#[]⟩, .slice none 0 0] 29) := ⟨_, rfl⟩
  have hV5 := hV4.symm
  rw [hV5]
  rw [← hV4] at H4
  obtain ⟨o, ho⟩ : ∃ o, o = w3.heap.size := ⟨_, rfl⟩
  obtain ⟨g, hg⟩ : ∃ g, g = w4.heap.size := ⟨_, rfl⟩
  simp only [← hg, ← ho]
  rw [← hg, ← ho] at H4
  clear hV4 hV5 ho hg H3 HH HV hr2 HU
  have c0 : V4.cell? ⟨o, 0, none⟩ = some (.int .i64 m) := H4.out.op.cell rfl
  have c1 : V4.cell? ⟨o, 1, none⟩ = some (Fv f1 #[]) := H4.out.op.cell rfl
  have c2 : V4.cell? ⟨o, 2, none⟩ = some (Fv f2 #[]) := H4.out.op.cell rfl
  refine wp_region_held_drew (S := fun w' => w'.cell? ⟨o, 0, none⟩ = some (.int .i64 m) ∧ w'.cell? ⟨o, 1, none⟩ = some (Fv f1 #[]) ∧ w'.cell? ⟨o, 2, none⟩ = some (Fv f2 #[])) (by kernel_rfl) ?_ (fun hHeld => ?_)
  · exact ⟨c0, c1, c2⟩
  refine wpAnyH_take (i := 0) (oi := { dst := some 23, op := Op.load 64 (Operand.tmp 6), type := 64, pos := "wire.go:81", after := #[], guard := none }) (v := ?vb0) rfl (by kernel_rfl) (by kernel_rfl) (by kernel_rfl) (fun _ _ _ h => h) (Or.inl ⟨by rfl, ?hb0⟩) (by assumption) ?rb0
  case hb0 => (intro w0 hSw; (try dsimp only at hSw); go_simp; try (with_reducible rfl))
  simp only [Act.put, List.setIfInBounds_toArray, List.set_cons_zero, List.set_cons_succ]
  refine wpAnyH_ready (rs := [1]) (by kernel_rfl) (by simp) ?_
  refine AllReadyH.cons rfl (fun K hK => ?_) AllReadyH.nil
  go_simp
  go_wp2_with (first | (go_at_call 26; refine (rdH_any r _).mono ?_; rintro y w5 ⟨rfl, b5⟩; have h5 := H4.out.drew.below b5; clear c0 c1 c2; have c0 : w5.cell? ⟨o, 0, none⟩ = some (.int .i64 m) := h5.op.cell rfl; have c1 : w5.cell? ⟨o, 1, none⟩ = some (Fv f1 #[]) := h5.op.cell rfl; have c2 : w5.cell? ⟨o, 2, none⟩ = some (Fv f2 #[]) := h5.op.cell rfl; have H5 := Hid.mk h5; clear h5 b5) | (go_at_call 25; refine (HNR.out _ r g H5.out.rd H5.out.rep).mono ?_; rintro y w6 ⟨rfl, v6, r6, g6, row6, own6, s6, le6⟩; have h6 := H5.out.read r6 g6 s6; clear c0 c1 c2; have c0 : w6.cell? ⟨o, 0, none⟩ = some (.int .i64 m) := h6.op.cell rfl; have c1 : w6.cell? ⟨o, 1, none⟩ = some (Fv f1 #[]) := h6.op.cell rfl; have c2 : w6.cell? ⟨o, 2, none⟩ = some (Fv f2 #[]) := h6.op.cell rfl; have H6 := Hid.mk (And.intro h6 (And.intro row6 (fun k hk => Nat.le_trans H5.out.old.size (own6 k hk)))); clear h6 r6 g6 row6 own6 s6 le6))
  refine hK.out _ _ ?_ (fun hHeld => ?_)
  · exact ⟨c0, c1, c2⟩
  clear hK K
  refine wpAnyH_ready (rs := [2]) (by kernel_rfl) (by simp) ?_
  refine AllReadyH.cons rfl (fun K hK => ?_) AllReadyH.nil
  go_simp
  go_wp2_with (first | (go_at_call 26; refine (rdH_any r _).mono ?_; rintro y w5 ⟨rfl, b5⟩; have h5 := H4.out.drew.below b5; clear c0 c1 c2; have c0 : w5.cell? ⟨o, 0, none⟩ = some (.int .i64 m) := h5.op.cell rfl; have c1 : w5.cell? ⟨o, 1, none⟩ = some (Fv f1 #[]) := h5.op.cell rfl; have c2 : w5.cell? ⟨o, 2, none⟩ = some (Fv f2 #[]) := h5.op.cell rfl; have H5 := Hid.mk h5; clear h5 b5) | (go_at_call 25; refine (HNR.out _ r g H5.out.rd H5.out.rep).mono ?_; rintro y w6 ⟨rfl, v6, r6, g6, row6, own6, s6, le6⟩; have h6 := H5.out.read r6 g6 s6; clear c0 c1 c2; have c0 : w6.cell? ⟨o, 0, none⟩ = some (.int .i64 m) := h6.op.cell rfl; have c1 : w6.cell? ⟨o, 1, none⟩ = some (Fv f1 #[]) := h6.op.cell rfl; have c2 : w6.cell? ⟨o, 2, none⟩ = some (Fv f2 #[]) := h6.op.cell rfl; have H6 := Hid.mk (And.intro h6 (And.intro row6 (fun k hk => Nat.le_trans H5.out.old.size (own6 k hk)))); clear h6 r6 g6 row6 own6 s6 le6))
  refine hK.out _ _ ?_ (fun hHeld => ?_)
  · exact ⟨c0, c1, c2⟩
  clear hK K
  refine wpAnyH_done (by kernel_rfl) ?_ _
  clear hHeld
  clear hHeld
  obtain ⟨av, cv, hav, -⟩ := slice_form H6.out.2.1
  subst hav
  have NR : Hid (∀ k, (Value.slice av L.length cv).ownBlock = some k → ¬ k = r) := fun k hk e => by
    obtain ⟨cur, hc⟩ := row_block H6.out.2.1 hk
    have := H6.out.1.rd
    rw [e] at hc
    rw [RdAt, HC, hc] at this
    simp at this
  have NB : Hid (∀ k, (Value.slice av L.length cv).ownBlock = some k → ¬ k = w.heap.size) := fun k hk e => by
    obtain ⟨cur, hc⟩ := row_block H6.out.2.1 hk
    have := H6.out.1.res
    rw [e] at hc
    rw [HC, hc] at this
    simp at this
  have hgl : w.heap.size < g := by have := H6.out.1.lr; have := H6.out.1.lo; have := H6.out.1.lg; omega
  have hol : w.heap.size < o := by have := H6.out.1.lr; have := H6.out.1.lo; omega
  have OWN : Hid (∀ k, (Value.slice av L.length cv).ownBlock = some k → w.heap.size ≤ k) := H6.out.2.2
  clear c0 c1 c2
  by_cases hx0 : x = 0
  · subst hx0
    go_wp2_with (go_at_call 27; refine (HE.out _ r H6.out.1.rd).mono ?_; rintro y w7 ⟨rfl, s7⟩; have k7 := H6.out.1.res.stay s7 (fun e => by have := H6.out.1.lr; omega); have g7 := H6.out.1.rep.stay s7 (fun e => by have := H6.out.1.lo; have := H6.out.1.lg; omega); have o7 := H6.out.1.op.stay s7 (fun e => by have := H6.out.1.lo; omega); have t7 := H6.out.1.old.andThen s7 (fun i hi e => by have := H6.out.1.lr; omega); have row7 := H6.out.2.1.stay s7 (fun k hk e => NR.out k hk e); have q0 : w7.cell? ⟨w.heap.size, 0, none⟩ = some (.int .i64 0) := k7.cell rfl; have z0 := k7.free 0; have q1 : w7.cell? ⟨w.heap.size, 1, none⟩ = some (.int .i64 0) := k7.cell rfl; have z1 := k7.free 1; have q2 : w7.cell? ⟨w.heap.size, 2, none⟩ = some (.string ⟨#[]⟩) := k7.cell rfl; have z2 := k7.free 2; have q3 : w7.cell? ⟨w.heap.size, 3, none⟩ = some (.slice none 0 0) := k7.cell rfl; have z3 := k7.free 3; have y0 : w7.cell? ⟨g, 0, none⟩ = some (.int .i64 e) := g7.cell rfl; have y1 : w7.cell? ⟨g, 1, none⟩ = some (.int .i64 n) := g7.cell rfl; have y2 : w7.cell? ⟨g, 2, none⟩ = some (Tx tx) := g7.cell rfl; have y3 : w7.cell? ⟨g, 3, none⟩ = some (.slice av L.length cv) := g7.cell rfl; have c07 : w7.cell? ⟨o, 0, none⟩ = some (.int .i64 m) := o7.cell rfl; have H7 := Hid.mk (And.intro k7 (And.intro t7 (And.intro row7 (And.intro g7 o7)))); clear k7 g7 t7 s7 row7 o7)
    obtain ⟨K9, S9⟩ := put4 H7.out.1 (.int .i64 e) (.int .i64 n) (Tx tx) (.slice av L.length cv)
    have nog : ¬ o = w.heap.size := by omega
    have nrg : ¬ g = w.heap.size := by omega
    have G9 := HC.stay H7.out.2.2.2.1 S9 nrg
    have O9 := HC.stay H7.out.2.2.2.2 S9 nog
    have ROW9 := H7.out.2.2.1.stay S9 (fun k hk e => NB.out k hk e)
    have a0 : ((((w7.setCell ⟨w.heap.size, 0, none⟩ (.int .i64 e)).setCell ⟨w.heap.size, 1, none⟩ (.int .i64 n)).setCell ⟨w.heap.size, 2, none⟩ (Tx tx)).setCell ⟨w.heap.size, 3, none⟩ (.slice av L.length cv)).drew.cell? ⟨g, 0, none⟩ = some (.int .i64 e) := HC.cell (HC.drew G9) rfl
    have a1 : ((((w7.setCell ⟨w.heap.size, 0, none⟩ (.int .i64 e)).setCell ⟨w.heap.size, 1, none⟩ (.int .i64 n)).setCell ⟨w.heap.size, 2, none⟩ (Tx tx)).setCell ⟨w.heap.size, 3, none⟩ (.slice av L.length cv)).drew.cell? ⟨g, 1, none⟩ = some (.int .i64 n) := HC.cell (HC.drew G9) rfl
    have a2 : ((((w7.setCell ⟨w.heap.size, 0, none⟩ (.int .i64 e)).setCell ⟨w.heap.size, 1, none⟩ (.int .i64 n)).setCell ⟨w.heap.size, 2, none⟩ (Tx tx)).setCell ⟨w.heap.size, 3, none⟩ (.slice av L.length cv)).drew.cell? ⟨g, 2, none⟩ = some (Tx tx) := HC.cell (HC.drew G9) rfl
    have a3 : ((((w7.setCell ⟨w.heap.size, 0, none⟩ (.int .i64 e)).setCell ⟨w.heap.size, 1, none⟩ (.int .i64 n)).setCell ⟨w.heap.size, 2, none⟩ (Tx tx)).setCell ⟨w.heap.size, 3, none⟩ (.slice av L.length cv)).drew.cell? ⟨g, 3, none⟩ = some (.slice av L.length cv) := HC.cell (HC.drew G9) rfl
    have a4 : ((((w7.setCell ⟨w.heap.size, 0, none⟩ (.int .i64 e)).setCell ⟨w.heap.size, 1, none⟩ (.int .i64 n)).setCell ⟨w.heap.size, 2, none⟩ (Tx tx)).setCell ⟨w.heap.size, 3, none⟩ (.slice av L.length cv)).drew.cell? ⟨o, 0, none⟩ = some (.int .i64 m) := HC.cell (HC.drew O9) rfl
    have HK := Hid.mk (And.intro (HC.drew K9) (And.intro S9.drew (ROW9.stay (Stay.refl (fun _ => False) _).drew (fun _ _ h => h))))
    clear K9 S9 G9 O9 ROW9
    obtain ⟨nL, hnL⟩ : ∃ nL, nL = L.length := ⟨_, rfl⟩
    have HNL := Hid.mk hnL
    rw [← hnL] at y3 a3
    simp only [← hnL] at a0 a1 a2 a3 a4 HK
    clear hnL
    refine wp_region_held_drew (S := fun w' => w'.cell? ⟨o, 0, none⟩ = some (.int .i64 m) ∧ w'.cell? ⟨g, 0, none⟩ = some (.int .i64 e) ∧ w'.cell? ⟨g, 1, none⟩ = some (.int .i64 n) ∧ w'.cell? ⟨g, 2, none⟩ = some (Tx tx) ∧ w'.cell? ⟨g, 3, none⟩ = some (.slice av nL cv)) (by kernel_rfl) ?_ (fun hHeld => ?_)
    · exact ⟨c07, y0, y1, y2, y3⟩
    refine wpAnyH_take (i := 0) (oi := { dst := some 31, op := Op.fieldAddr 64 (Operand.tmp 6) 0, type := 0, pos := "wire.go:85", after := #[], guard := none }) (v := ?vd0) rfl (by kernel_rfl) (by kernel_rfl) (by kernel_rfl) (fun _ _ _ h => h) (Or.inl ⟨by rfl, ?hd0⟩) (by assumption) ?rd0
    case hd0 => (intro w0 hSw; (try dsimp only at hSw); go_simp; try (with_reducible rfl))
    simp only [Act.put, List.setIfInBounds_toArray, List.set_cons_zero, List.set_cons_succ]
    refine wpAnyH_take (i := 1) (oi := { dst := some 32, op := Op.load 3 (Operand.tmp 31), type := 3, pos := "wire.go:85", after := #[{ on := 0, ground := Ground.data }], guard := none }) (v := ?vd1) rfl (by kernel_rfl) (by kernel_rfl) (by kernel_rfl) (fun _ _ _ h => h) (Or.inl ⟨by rfl, ?hd1⟩) (by assumption) ?rd1
    case hd1 => (intro w0 hSw; (try dsimp only at hSw); go_simp; try (with_reducible rfl))
    simp only [Act.put, List.setIfInBounds_toArray, List.set_cons_zero, List.set_cons_succ]
    refine wpAnyH_take (i := 2) (oi := { dst := some 33, op := Op.load 29 (Operand.tmp 8), type := 29, pos := "wire.go:85", after := #[{ on := 3, ground := Ground.gcOnly Departure.lateStores }], guard := none }) (v := ?vd2) rfl (by kernel_rfl) (by kernel_rfl) (by kernel_rfl) (fun _ _ _ h => h) (Or.inl ⟨by rfl, ?hd2⟩) (by assumption) ?rd2
    case hd2 => (intro w0 hSw; (try dsimp only at hSw); go_simp; try (with_reducible rfl))
    simp only [Act.put, List.setIfInBounds_toArray, List.set_cons_zero, List.set_cons_succ]
    refine wpAnyH_take (i := 3) (oi := { dst := some 2, op := Op.assign (Operand.tmp 32), type := 3, pos := "wire.go:85", after := #[{ on := 1, ground := Ground.data }, { on := 0, ground := Ground.phase }, { on := 1, ground := Ground.phase }, { on := 2, ground := Ground.textOnly Departure.lateStores }], guard := none }) (v := ?vd3) rfl (by kernel_rfl) (by kernel_rfl) (by kernel_rfl) (fun _ _ _ h => h) (Or.inl ⟨by rfl, ?hd3⟩) (by assumption) ?rd3
    case hd3 => (intro w0 hSw; (try dsimp only at hSw); go_simp; try (with_reducible rfl))
    simp only [Act.put, List.setIfInBounds_toArray, List.set_cons_zero, List.set_cons_succ]
    refine wpAnyH_ready (rs := [4]) (by kernel_rfl) (by simp) ?_
    refine AllReadyH.cons rfl (fun K hK => ?_) AllReadyH.nil
    go_simp
    go_wp2_with (fail)
    refine hK.out _ _ ?_ (fun hHeld => ?_)
    · exact ⟨a4, a0, a1, a2, a3⟩
    clear hK K
    refine wpAnyH_take (i := 5) (oi := { dst := some 4, op := Op.assign (Operand.const (Value.int IntKind.i64 0)), type := 27, pos := "wire.go:85", after := #[{ on := 4, ground := Ground.chain }, { on := 0, ground := Ground.phase }, { on := 1, ground := Ground.phase }, { on := 2, ground := Ground.phase }, { on := 3, ground := Ground.phase }, { on := 4, ground := Ground.phase }], guard := none }) (v := ?vd5) rfl (by kernel_rfl) (by kernel_rfl) (by kernel_rfl) (fun _ _ _ h => h) (Or.inl ⟨by rfl, ?hd5⟩) (by assumption) ?rd5
    case hd5 => (intro w0 hSw; (try dsimp only at hSw); go_simp; try (with_reducible rfl))
    simp only [Act.put, List.setIfInBounds_toArray, List.set_cons_zero, List.set_cons_succ]
    refine wpAnyH_done (by kernel_rfl) ?_ _
    go_wp2
    obtain ⟨W9, hW9⟩ : ∃ W9, W9 = ((((w7.setCell ⟨w.heap.size, 0, none⟩ (.int .i64 e)).setCell ⟨w.heap.size, 1, none⟩ (.int .i64 n)).setCell ⟨w.heap.size, 2, none⟩ (Tx tx)).setCell ⟨w.heap.size, 3, none⟩ (.slice av nL cv)).drew := ⟨_, rfl⟩
    rw [← hW9] at HK ⊢
    have v0 : W9.cell? ⟨w.heap.size, 0, none⟩ = some (.int .i64 e) := HK.out.1.cell rfl
    have v1 : W9.cell? ⟨w.heap.size, 1, none⟩ = some (.int .i64 n) := HK.out.1.cell rfl
    have v2 : W9.cell? ⟨w.heap.size, 2, none⟩ = some (Tx tx) := HK.out.1.cell rfl
    have v3 : W9.cell? ⟨w.heap.size, 3, none⟩ = some (.slice av nL cv) := HK.out.1.cell rfl
    refine bodyPost_ret (v := .tuple #[.int .i64 m, .agg #[(.int .i64 e), (.int .i64 n), (Tx tx), (.slice av nL cv)], .int .i64 0]) (by simp [results, Try.results8, go_sem, v0, v1, v2, v3]; try rfl) rfl ?_
    rw [HA.out, if_neg (fun h => h rfl)]
    refine ⟨_, rfl, ?_, (by have := OWN.out; rw [← HNL.out] at this; exact this), Stay.toBelow (F := fun k => w.heap.size ≤ k) (H7.out.2.1.andThen HK.out.2.1 (fun i hi e => by omega)) (fun k hk h => by omega) (Nat.le_refl _)⟩
    have := HK.out.2.2
    exact this
  · go_wp2_with (go_at_call 27; refine (HE.out _ r H6.out.1.rd).mono ?_; rintro y w7 ⟨rfl, s7⟩; have k7 := H6.out.1.res.stay s7 (fun e => by have := H6.out.1.lr; omega); have g7 := H6.out.1.rep.stay s7 (fun e => by have := H6.out.1.lo; have := H6.out.1.lg; omega); have o7 := H6.out.1.op.stay s7 (fun e => by have := H6.out.1.lo; omega); have t7 := H6.out.1.old.andThen s7 (fun i hi e => by have := H6.out.1.lr; omega); have row7 := H6.out.2.1.stay s7 (fun k hk e => NR.out k hk e); have q0 : w7.cell? ⟨w.heap.size, 0, none⟩ = some (.int .i64 0) := k7.cell rfl; have z0 := k7.free 0; have q1 : w7.cell? ⟨w.heap.size, 1, none⟩ = some (.int .i64 0) := k7.cell rfl; have z1 := k7.free 1; have q2 : w7.cell? ⟨w.heap.size, 2, none⟩ = some (.string ⟨#[]⟩) := k7.cell rfl; have z2 := k7.free 2; have q3 : w7.cell? ⟨w.heap.size, 3, none⟩ = some (.slice none 0 0) := k7.cell rfl; have z3 := k7.free 3; have y0 : w7.cell? ⟨g, 0, none⟩ = some (.int .i64 e) := g7.cell rfl; have y1 : w7.cell? ⟨g, 1, none⟩ = some (.int .i64 n) := g7.cell rfl; have y2 : w7.cell? ⟨g, 2, none⟩ = some (Tx tx) := g7.cell rfl; have y3 : w7.cell? ⟨g, 3, none⟩ = some (.slice av L.length cv) := g7.cell rfl; have c07 : w7.cell? ⟨o, 0, none⟩ = some (.int .i64 m) := o7.cell rfl; have H7 := Hid.mk (And.intro k7 (And.intro t7 (And.intro row7 (And.intro g7 o7)))); clear k7 g7 t7 s7 row7 o7)
    obtain ⟨K9, S9⟩ := put4 H7.out.1 (.int .i64 0) (.int .i64 0) (.string ⟨#[]⟩) (.slice none 0 0)
    have HK := Hid.mk (And.intro K9 S9)
    clear K9 S9
    obtain ⟨W9, hW9⟩ : ∃ W9, W9 = ((((w7.setCell ⟨w.heap.size, 0, none⟩ (.int .i64 0)).setCell ⟨w.heap.size, 1, none⟩ (.int .i64 0)).setCell ⟨w.heap.size, 2, none⟩ (.string ⟨#[]⟩)).setCell ⟨w.heap.size, 3, none⟩ (.slice none 0 0)) := ⟨_, rfl⟩
    rw [← hW9] at HK ⊢
    have v0 : W9.cell? ⟨w.heap.size, 0, none⟩ = some (.int .i64 0) := HK.out.1.cell rfl
    have v1 : W9.cell? ⟨w.heap.size, 1, none⟩ = some (.int .i64 0) := HK.out.1.cell rfl
    have v2 : W9.cell? ⟨w.heap.size, 2, none⟩ = some (.string ⟨#[]⟩) := HK.out.1.cell rfl
    have v3 : W9.cell? ⟨w.heap.size, 3, none⟩ = some (.slice none 0 0) := HK.out.1.cell rfl
    refine bodyPost_ret (v := .tuple #[.int .i64 0, .agg #[(.int .i64 0), (.int .i64 0), (.string ⟨#[]⟩), (.slice none 0 0)], .int .i64 x]) (by simp [results, Try.results8, go_sem, v0, v1, v2, v3]; try rfl) rfl ?_
    rw [HA.out, if_pos hx0]
    exact ⟨_, rfl, World.ownsRow_nil _ _ _ _, (fun k hk => by cases hk), Stay.toBelow (F := fun k => w.heap.size ≤ k) (H7.out.2.1.andThen HK.out.2 (fun i hi e => by omega)) (fun k hk h => by omega) (Nat.le_refl _)⟩
theorem told_any (b : ByteArray) (w : World) (hb : b.size < 4611686018427387904) :
    Calls Try.prog 8 #[.string b] w fun y w' => TdO w w' y (toldA b) := by
  by_cases hx : (hdX 82 b).1 = 0
  · exact told_ok b w hb hx
  · have e : toldA b = (0, (0, 0, [], []), (hdX 82 b).1) := by unfold toldA; rw [if_pos hx]
    rw [e]
    exact told_no b w hb hx
end Go.Proofs.Ytjdknijjkjmafaa
