/-
  DERIVED. A writer of messages.
-/
import Derived.Test.YtjdknijjkjmafaaWBuild
import Derived.Test.YtjdknijjkjmafaaWFind
import Derived.Test.YtjdknijjkjmafaaWRd2
set_option linter.unusedVariables false
set_option linter.unusedSimpArgs false
namespace Go.Proofs.Ytjdknijjkjmafaa
open Go.RowKit Go.Proofs.SealMath
theorem cell_stay {F : Nat → Prop} {w w' : World} {g o : Nat} {v : Value} (s : Stay F w w') (hg : ¬ F g) (h : w.cell? ⟨g, o, none⟩ = some v) : w'.cell? ⟨g, o, none⟩ = some v := by
  have hl := World.block_lt_of_cell? w _ h
  have := s.block g hl hg
  unfold World.cell? at h ⊢
  simp only at h ⊢
  rw [this]; exact h
/-- What a writer wrote: these bytes are put behind. -/
structure Wt (w w' : World) (b : Nat) (v v' : Value) (l : List UInt8) : Prop where
  bd : Bd w' b (Pt b) v' l
  st : Stay (fun k => k = b ∨ v.ownBlock = some k) w w'
  loc : ∀ k, v'.ownBlock = some k → v.ownBlock = some k ∨ w.heap.size ≤ k
theorem Wt.trans {w w1 w2 : World} {b : Nat} {v v1 v2 : Value} {l l' : List UInt8} (h : Wt w w1 b v v1 l) (k : Wt w1 w2 b v1 v2 l') (hb : b < w.heap.size) : Wt w w2 b v v2 l' where
  bd := k.bd
  st := h.st.andThen k.st (fun i hi e => by
    rcases e with e | e
    · exact .inl e
    · rcases h.loc i e with e | e
      · exact .inr e
      · omega)
  loc := fun j hj => by
    rcases k.loc j hj with e | e
    · exact h.loc j e
    · exact .inr (Nat.le_trans h.st.size e)
theorem Wt.pre {w w0 w1 : World} {b : Nat} {v v1 : Value} {l : List UInt8} (s : Below w.heap.size w w0) (h : Wt w0 w1 b v v1 l) : Wt w w1 b v v1 l :=
  ⟨h.bd, (Stay.below s).trans h.st, fun k hk => (h.loc k hk).imp_right (Nat.le_trans s.size)⟩
theorem Bd.lt {w : World} {b : Nat} {p v : Value} {l : List UInt8} (h : Bd w b p v l) : b < w.heap.size := (Array.getElem?_eq_some_iff.1 h.cells).1
theorem Bd.row_lt {w : World} {b : Nat} {p v : Value} {l : List UInt8} (h : Bd w b p v l) (k : Nat) (hk : v.ownBlock = some k) : k < w.heap.size := Go.Proofs.Ytjdknijjkjmafaa.row_lt h.row hk
theorem Bd.below {w w' : World} {b : Nat} {p v : Value} {l : List UInt8} (h : Bd w b p v l) (s : Below w.heap.size w w') : Bd w' b p v l := h.kept (F := fun _ => False) (.below s) (fun h => h) (fun _ _ h => h)
theorem wstr_step (t : ByteArray) {w1 : World} {b : Nat} {p v1 : Value} {l1 : List UInt8} (h : Bd w1 b p v1 l1) (hb : l1.length + t.size ≤ 140737488355328) :
    Calls Try.prog 61 #[Pt b, .string t] w1.drew fun e w2 => e = .returned (.tuple #[.int .i64 t.size, .nilIface]) ∧ ∃ v2, Wt w1 w2 b v1 v2 (l1 ++ t.data.toList) :=
  wstr_any t _ (h.kept (F := fun _ => False) ((Stay.refl _ w1).drew) (fun h => h) (fun _ _ h => h)) hb _ fun v2 w2 hB s2 hloc => ⟨rfl, v2, hB, (Stay.refl _ w1).drew.trans s2, hloc⟩
theorem Wt.cell {w w' : World} {b g o : Nat} {v v' x : Value} {l : List UInt8} (h : Wt w w' b v v' l) (hgb : g ≠ b) (hgv : ∀ k, v.ownBlock = some k → g ≠ k) (hc : w.cell? ⟨g, o, none⟩ = some x) : w'.cell? ⟨g, o, none⟩ = some x :=
  cell_stay h.st (fun e => by rcases e with e | e; exact hgb e; exact hgv _ e rfl) hc
theorem Wt.apart {w w' : World} {b g : Nat} {v v' : Value} {l : List UInt8} (h : Wt w w' b v v' l) (hgv : ∀ k, v.ownBlock = some k → g ≠ k) (hg : g < w.heap.size) : ∀ k, v'.ownBlock = some k → g ≠ k := fun k hk e => by
  rcases h.loc k hk with e1 | e1
  · exact hgv k e1 e
  · omega
set_option maxHeartbeats 4000000 in
set_option maxRecDepth 100000 in
theorem wnumber_any {b : Nat} {p v : Value} {l : List UInt8} (n : Nat) (w : World) (g o : Nat) (h : Bd w b p v l) (hn : n ≤ 9223372036854775807) (hl : l.length + 10 ≤ 140737488355328) (hc : w.cell? ⟨g, o, none⟩ = some (.int .i64 n)) (hgb : g ≠ b) (hgv : ∀ k, v.ownBlock = some k → g ≠ k) :
    Calls Try.prog 42 #[Pt b, Pc g o] w fun e w' => e = Un ∧ ∃ v', Wt w w' b v v' (l ++ pvL 9 n) := by
  have hw : IntKind.u64.wrap (n : Int) = (n : Int) := by rw [IntKind.wrap_u64]; omega
  have hP := fun W => putvar_any n W (by omega)
  have hlen := (pvL_len 9 n).2
  obtain ⟨L, hL⟩ : ∃ L, L = pvL 9 n := ⟨_, rfl⟩
  rw [← hL] at hP hlen ⊢
  have hsz : (⟨L.toArray⟩ : ByteArray).size = L.length := by simp [ByteArray.size]
  have hW := fun W (hB : Bd W b p v l) R h1 => wstr_any (b := b) (p := p) (v := v) (l := l) ⟨L.toArray⟩ W hB (by rw [hsz]; omega) R h1
  obtain ⟨X, hX⟩ : ∃ X : ByteArray, X = ⟨L.toArray⟩ := ⟨_, rfl⟩
  have hXL : X.data.toList = L := by rw [hX]
  rw [← hX] at hP hW
  have HH := Hid.mk (And.intro h (And.intro hgb hgv))
  have HW := Hid.mk hW
  have HX := Hid.mk hXL
  clear hL hlen hsz hX hW h hgb hgv hl hn hXL
  go_enter Try.func42, Try.ntmps42
  go_wp2
  refine wp_region_held_drew (S := fun w' => w'.cell? ⟨g, o, none⟩ = some (.int .i64 n)) (by kernel_rfl) ?_ (fun hHeld => ?_)
  · exact hc
  refine wpAnyH_take (i := 0) (oi := { dst := some 4, op := Op.move (Operand.tmp 0), type := 88, pos := "writer.go:25", after := #[], guard := none }) (v := ?vn0) rfl (by kernel_rfl) (by kernel_rfl) (by kernel_rfl) (fun _ _ _ h => h) (Or.inl ⟨by rfl, ?hn0⟩) (by assumption) ?rn0
  case hn0 => (intro w0 hSw; (try dsimp only at hSw); go_simp; try (with_reducible rfl))
  simp only [Act.put, List.setIfInBounds_toArray, List.set_cons_zero, List.set_cons_succ]
  refine wpAnyH_take (i := 1) (oi := { dst := some 5, op := Op.nilCheck (Operand.tmp 4), type := 0, pos := "writer.go:25", after := #[{ on := 0, ground := Ground.data }], guard := none }) (v := ?vn1) rfl (by kernel_rfl) (by kernel_rfl) (by kernel_rfl) (fun _ _ _ h => h) (Or.inl ⟨by rfl, ?hn1⟩) (by assumption) ?rn1
  case hn1 => (intro w0 hSw; (try dsimp only at hSw); go_simp; try (with_reducible rfl))
  simp only [Act.put, List.setIfInBounds_toArray, List.set_cons_zero, List.set_cons_succ]
  refine wpAnyH_take (i := 2) (oi := { dst := some 6, op := Op.fieldAddr 94 (Operand.tmp 5) 0, type := 0, pos := "writer.go:25", after := #[{ on := 1, ground := Ground.data }], guard := none }) (v := ?vn2) rfl (by kernel_rfl) (by kernel_rfl) (by kernel_rfl) (fun _ _ _ h => h) (Or.inl ⟨by rfl, ?hn2⟩) (by assumption) ?rn2
  case hn2 => (intro w0 hSw; (try dsimp only at hSw); go_simp; try (with_reducible rfl))
  simp only [Act.put, List.setIfInBounds_toArray, List.set_cons_zero, List.set_cons_succ]
  refine wpAnyH_take (i := 3) (oi := { dst := some 7, op := Op.move (Operand.tmp 1), type := 96, pos := "writer.go:25", after := #[], guard := none }) (v := ?vn3) rfl (by kernel_rfl) (by kernel_rfl) (by kernel_rfl) (fun _ _ _ h => h) (Or.inl ⟨by rfl, ?hn3⟩) (by assumption) ?rn3
  case hn3 => (intro w0 hSw; (try dsimp only at hSw); go_simp; try (with_reducible rfl))
  simp only [Act.put, List.setIfInBounds_toArray, List.set_cons_zero, List.set_cons_succ]
  refine wpAnyH_take (i := 4) (oi := { dst := some 8, op := Op.nilCheck (Operand.tmp 7), type := 0, pos := "writer.go:25", after := #[{ on := 3, ground := Ground.data }], guard := none }) (v := ?vn4) rfl (by kernel_rfl) (by kernel_rfl) (by kernel_rfl) (fun _ _ _ h => h) (Or.inl ⟨by rfl, ?hn4⟩) (by assumption) ?rn4
  case hn4 => (intro w0 hSw; (try dsimp only at hSw); go_simp; try (with_reducible rfl))
  simp only [Act.put, List.setIfInBounds_toArray, List.set_cons_zero, List.set_cons_succ]
  refine wpAnyH_take (i := 5) (oi := { dst := some 9, op := Op.load 3 (Operand.tmp 8), type := 3, pos := "writer.go:25", after := #[{ on := 4, ground := Ground.data }], guard := none }) (v := ?vn5) rfl (by kernel_rfl) (by kernel_rfl) (by kernel_rfl) (fun _ _ _ h => h) (Or.inl ⟨by rfl, ?hn5⟩) (by assumption) ?rn5
  case hn5 => (intro w0 hSw; (try dsimp only at hSw); go_simp; try (with_reducible rfl))
  simp only [Act.put, List.setIfInBounds_toArray, List.set_cons_zero, List.set_cons_succ]
  refine wpAnyH_take (i := 6) (oi := { dst := some 10, op := Op.convert 3 101 (Operand.tmp 9), type := 101, pos := "writer.go:25", after := #[{ on := 5, ground := Ground.data }], guard := none }) (v := ?vn6) rfl (by kernel_rfl) (by kernel_rfl) (by kernel_rfl) (fun _ _ _ h => h) (Or.inl ⟨by rfl, ?hn6⟩) (by assumption) ?rn6
  case hn6 => (intro w0 hSw; (try dsimp only at hSw); go_simp; try (with_reducible rfl))
  simp only [Act.put, List.setIfInBounds_toArray, List.set_cons_zero, List.set_cons_succ]
  refine wpAnyH_ready (rs := [7]) (by kernel_rfl) (by simp) ?_
  refine AllReadyH.cons rfl (fun K hK => ?_) AllReadyH.nil
  go_simp
  go_wp2_with (first | (go_at_call 62; refine (hP _).mono ?_; clear hP; rintro e w1 ⟨rfl, b1⟩; have c1 := cell_stay (Stay.below (F := fun _ => False) b1) (fun h => h) (show w.drew.cell? ⟨g, o, none⟩ = _ from hc); have H1 := Hid.mk b1; clear b1) | (go_at_call 61; refine HW.out _ (HH.out.1.kept (F := fun _ => False) ((Stay.refl _ w).drew.trans (.below H1.out)) (fun h => h) (fun _ _ h => h)) _ ?_; intro v' w2 hB s2 hloc; have c2 := cell_stay s2 (fun e => by rcases e with e | e; exact HH.out.2.1 e; exact HH.out.2.2 _ e rfl) c1; have H2 : Hid (Wt w w2 b v v' (l ++ L)) := ⟨by rw [← HX.out]; exact hB, ((Stay.refl _ w).drew.trans (.below H1.out)).trans s2, fun k hk => (hloc k hk).imp_right (Nat.le_trans (((Stay.refl (fun _ => False) w).drew.trans (.below H1.out)).size))⟩; clear hB s2 hloc))
  refine hK.out _ _ ?_ (fun hHeld => ?_)
  · first | exact c2 | exact c1
  clear hK K
  refine wpAnyH_ready (rs := [8]) (by kernel_rfl) (by simp) ?_
  refine AllReadyH.cons rfl (fun K hK => ?_) AllReadyH.nil
  go_simp
  go_wp2_with (first | (go_at_call 62; refine (hP _).mono ?_; clear hP; rintro e w1 ⟨rfl, b1⟩; have c1 := cell_stay (Stay.below (F := fun _ => False) b1) (fun h => h) (show w.drew.cell? ⟨g, o, none⟩ = _ from hc); have H1 := Hid.mk b1; clear b1) | (go_at_call 61; refine HW.out _ (HH.out.1.kept (F := fun _ => False) ((Stay.refl _ w).drew.trans (.below H1.out)) (fun h => h) (fun _ _ h => h)) _ ?_; intro v' w2 hB s2 hloc; have c2 := cell_stay s2 (fun e => by rcases e with e | e; exact HH.out.2.1 e; exact HH.out.2.2 _ e rfl) c1; have H2 : Hid (Wt w w2 b v v' (l ++ L)) := ⟨by rw [← HX.out]; exact hB, ((Stay.refl _ w).drew.trans (.below H1.out)).trans s2, fun k hk => (hloc k hk).imp_right (Nat.le_trans (((Stay.refl (fun _ => False) w).drew.trans (.below H1.out)).size))⟩; clear hB s2 hloc))
  refine hK.out _ _ ?_ (fun hHeld => ?_)
  · first | exact c2 | exact c1
  clear hK K
  refine wpAnyH_done (by kernel_rfl) ?_ _
  go_wp2
  first | go_end0 | refine bodyPost_ret (results_none rfl _ _ _) rfl ?_
  exact ⟨rfl, v', H2.out⟩
set_option maxHeartbeats 4000000 in
set_option maxRecDepth 100000 in
theorem wtext_any {b : Nat} {p v : Value} {l : List UInt8} (t : ByteArray) (w : World) (g o : Nat) (h : Bd w b p v l) (hn : t.size ≤ 65536) (hl : l.length + 65546 ≤ 140737488355328) (hc : w.cell? ⟨g, o, none⟩ = some (.string t)) (hgb : g ≠ b) (hgv : ∀ k, v.ownBlock = some k → g ≠ k) :
    Calls Try.prog 59 #[Pt b, Pc g o] w fun e w' => e = Un ∧ ∃ v', Wt w w' b v v' (l ++ (pvL 9 t.size ++ t.data.toList)) := by
  have bA : Below w.heap.size w (w.alloc (.cells #[.int .i64 t.size] 3)) := (Below.refl _ w).alloc (Nat.le_refl _) _
  have hB := h.below bA
  have lb := h.lt
  have cn : (w.alloc (.cells #[.int .i64 t.size] 3)).cell? ⟨w.heap.size, 0, none⟩ = some (.int .i64 t.size) := HC.cell (HC.new w _ _) rfl
  have hN := wnumber_any t.size _ w.heap.size 0 hB (by omega) (by omega) cn (by omega) (fun k hk e => by have := h.row_lt k hk; omega)
  have hc' := cell_stay (Stay.below (F := fun _ => False) bA) (fun h => h) hc
  have hlen := (pvL_len 9 t.size).2
  have HH := Hid.mk (And.intro h (And.intro hgb (And.intro hgv (And.intro bA (And.intro hlen hl)))))
  have gl := World.block_lt_of_cell? w _ hc
  clear h hgb hgv hl hB bA hlen
  go_enter Try.func59, Try.ntmps59
  go_wp2_with (go_at_call 42; refine hN.mono ?_; clear hN; rintro e w1 ⟨rfl, v1, h1⟩; have H1 := Hid.mk h1; clear h1)
  have c1 := H1.out.cell HH.out.2.1 HH.out.2.2.1 hc'
  have hS := wstr_step t H1.out.bd (by have := HH.out.2.2.2.2; rw [List.length_append]; omega)
  have hap := H1.out.apart HH.out.2.2.1 (Nat.lt_of_lt_of_le gl HH.out.2.2.2.1.size)
  have HAP := Hid.mk hap
  clear hap
  refine wp_region_held_drew (S := fun w' => w'.cell? ⟨g, o, none⟩ = some (.string t)) (by kernel_rfl) ?_ (fun hHeld => ?_)
  · exact c1
  refine wpAnyH_take (i := 0) (oi := { dst := some 11, op := Op.move (Operand.tmp 0), type := 88, pos := "writer.go:30", after := #[], guard := none }) (v := ?vt0) rfl (by kernel_rfl) (by kernel_rfl) (by kernel_rfl) (fun _ _ _ h => h) (Or.inl ⟨by rfl, ?ht0⟩) (by assumption) ?rt0
  case ht0 => (intro w0 hSw; (try dsimp only at hSw); go_simp; try (with_reducible rfl))
  simp only [Act.put, List.setIfInBounds_toArray, List.set_cons_zero, List.set_cons_succ]
  refine wpAnyH_take (i := 1) (oi := { dst := some 12, op := Op.nilCheck (Operand.tmp 11), type := 0, pos := "writer.go:30", after := #[{ on := 0, ground := Ground.data }], guard := none }) (v := ?vt1) rfl (by kernel_rfl) (by kernel_rfl) (by kernel_rfl) (fun _ _ _ h => h) (Or.inl ⟨by rfl, ?ht1⟩) (by assumption) ?rt1
  case ht1 => (intro w0 hSw; (try dsimp only at hSw); go_simp; try (with_reducible rfl))
  simp only [Act.put, List.setIfInBounds_toArray, List.set_cons_zero, List.set_cons_succ]
  refine wpAnyH_take (i := 2) (oi := { dst := some 13, op := Op.fieldAddr 94 (Operand.tmp 12) 0, type := 0, pos := "writer.go:30", after := #[{ on := 1, ground := Ground.data }], guard := none }) (v := ?vt2) rfl (by kernel_rfl) (by kernel_rfl) (by kernel_rfl) (fun _ _ _ h => h) (Or.inl ⟨by rfl, ?ht2⟩) (by assumption) ?rt2
  case ht2 => (intro w0 hSw; (try dsimp only at hSw); go_simp; try (with_reducible rfl))
  simp only [Act.put, List.setIfInBounds_toArray, List.set_cons_zero, List.set_cons_succ]
  refine wpAnyH_take (i := 3) (oi := { dst := some 14, op := Op.move (Operand.tmp 1), type := 118, pos := "writer.go:30", after := #[], guard := none }) (v := ?vt3) rfl (by kernel_rfl) (by kernel_rfl) (by kernel_rfl) (fun _ _ _ h => h) (Or.inl ⟨by rfl, ?ht3⟩) (by assumption) ?rt3
  case ht3 => (intro w0 hSw; (try dsimp only at hSw); go_simp; try (with_reducible rfl))
  simp only [Act.put, List.setIfInBounds_toArray, List.set_cons_zero, List.set_cons_succ]
  refine wpAnyH_take (i := 4) (oi := { dst := some 15, op := Op.nilCheck (Operand.tmp 14), type := 0, pos := "writer.go:30", after := #[{ on := 3, ground := Ground.data }], guard := none }) (v := ?vt4) rfl (by kernel_rfl) (by kernel_rfl) (by kernel_rfl) (fun _ _ _ h => h) (Or.inl ⟨by rfl, ?ht4⟩) (by assumption) ?rt4
  case ht4 => (intro w0 hSw; (try dsimp only at hSw); go_simp; try (with_reducible rfl))
  simp only [Act.put, List.setIfInBounds_toArray, List.set_cons_zero, List.set_cons_succ]
  refine wpAnyH_take (i := 5) (oi := { dst := some 16, op := Op.load 9 (Operand.tmp 15), type := 9, pos := "writer.go:30", after := #[{ on := 4, ground := Ground.data }], guard := none }) (v := ?vt5) rfl (by kernel_rfl) (by kernel_rfl) (by kernel_rfl) (fun _ _ _ h => h) (Or.inl ⟨by rfl, ?ht5⟩) (by assumption) ?rt5
  case ht5 => (intro w0 hSw; (try dsimp only at hSw); go_simp; try (with_reducible rfl))
  simp only [Act.put, List.setIfInBounds_toArray, List.set_cons_zero, List.set_cons_succ]
  refine wpAnyH_ready (rs := [6]) (by kernel_rfl) (by simp) ?_
  refine AllReadyH.cons rfl (fun K hK => ?_) AllReadyH.nil
  go_simp
  go_wp2_with (go_at_call 61; refine hS.mono ?_; clear hS; rintro e w2 ⟨rfl, v2, h2⟩; have c2 := h2.cell HH.out.2.1 HAP.out c1; have H2 := Hid.mk h2; clear h2)
  refine hK.out _ _ ?_ (fun hHeld => ?_)
  · exact c2
  clear hK K
  refine wpAnyH_done (by kernel_rfl) ?_ _
  go_wp2
  first | go_end0 | refine bodyPost_ret (results_none rfl _ _ _) rfl ?_
  refine ⟨rfl, v2, ?_⟩
  have := Wt.trans (Wt.pre HH.out.2.2.2.1 H1.out) H2.out HH.out.1.lt
  rw [List.append_assoc] at this
  exact this
end Go.Proofs.Ytjdknijjkjmafaa
