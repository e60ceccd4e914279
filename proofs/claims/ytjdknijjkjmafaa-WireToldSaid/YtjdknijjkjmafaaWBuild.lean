/-
  DERIVED. A builder that is written.
-/
import Derived.Test.YtjdknijjkjmafaaBStay
import Derived.Test.YtjdknijjkjmafaaWBox
import Derived.Lib.Builder
import Derived.Lib.AppendStr
set_option linter.unusedVariables false
set_option linter.unusedSimpArgs false
namespace Go.Proofs.Ytjdknijjkjmafaa
open Go.RowKit
/-- A builder in block b, its address p (its own, or none yet), its buffer v, holding these bytes. -/
structure Bd (w : World) (b : Nat) (p v : Value) (l : List UInt8) : Prop where
  adr : p = .pointer none ∨ p = Pt b
  cells : w.heap[b]? = some (.cells #[p, v] 94 (0, 0))
  row : w.ownsRow 0 5 1 v l.length (l.map BV)
theorem Bd.row_b {w : World} {b : Nat} {p v : Value} {l : List UInt8} (h : Bd w b p v l) (k : Nat) (hk : v.ownBlock = some k) : k ≠ b := fun e1 => by
  obtain ⟨cur, hc⟩ := row_block h.row hk
  rw [e1, h.cells] at hc
  simp at hc
theorem Bd.kept {w w' : World} {b : Nat} {p v : Value} {l : List UInt8} {F : Nat → Prop} (h : Bd w b p v l) (s : Stay F w w') (h1 : ¬ F b) (h2 : ∀ k, v.ownBlock = some k → ¬ F k) : Bd w' b p v l :=
  ⟨h.adr, (s.block b (Array.getElem?_eq_some_iff.1 h.cells).1 h1).trans h.cells, row_kept h.row s h2⟩
theorem Bd.new (w : World) : Bd (w.alloc (.cells #[.pointer none, .slice none 0 0] 94)) w.heap.size (.pointer none) (.slice none 0 0) [] :=
  ⟨.inl rfl, heap_alloc_last w _, ⟨rfl, .inl ⟨rfl, rfl⟩⟩⟩
theorem infoB : (Try.prog.info? 92).map (·.size) = some 2 := by kernel_rfl
theorem liesB : liesAt Try.prog Try.prog.depth 94 (2 / Try.prog.cellsOf 94) 0 92 1 = true := by kernel_rfl
set_option maxHeartbeats 4000000 in
set_option maxRecDepth 100000 in
theorem copyCheck_any {b : Nat} {p v : Value} {l : List UInt8} (w : World) (h : Bd w b p v l) :
    Calls Try.prog 80 #[Pt b] w fun r w' => r = .returned (.tuple #[]) ∧ Bd w' b (Pt b) v l ∧ Stay (· = b) w w' := by
  have hc := h.cells
  have c0 : w.cell? ⟨b, 0, none⟩ = some p := by simp [World.cell?, hc]
  obtain ⟨j, hj, hjs⟩ := Option.map_eq_some_iff.1 infoB
  rcases h.adr with rfl | rfl
  · have z0 : w.frozen? ⟨b, 0, none⟩ = false := by simp [World.frozen?, hc]
    have hsh : w.shape? b = some (94, 2) := by simp [World.shape?, hc]
    have s1 : Stay (· = b) w (w.setCell ⟨b, 0, none⟩ (Pt b)) := (Stay.refl (· = b) w).setCell (p := ⟨b, 0, none⟩) (fun _ => rfl) _
    have HF := Hid.mk (show Bd (w.setCell ⟨b, 0, none⟩ (Pt b)) b (Pt b) v l ∧ Stay (· = b) w (w.setCell ⟨b, 0, none⟩ (Pt b)) from
      ⟨⟨.inr rfl, heap_setCell_same w b 0 _ _ _ hc, row_kept h.row s1 (fun k hk e => h.row_b k hk e)⟩, s1⟩)
    clear h s1
    go_enter Try.func80, Try.ntmps80
    go_wp2
    rw [Lib.run_to_unsafe w ⟨b, 0, none⟩ Try.underlying90 (by kernel_rfl) hj (by rw [hjs]; decide) hsh (Nat.zero_lt_succ 1)]
    simp only [Result.andThen]
    rw [Oper.upon_value]
    go_wp2
    rw [run_callFunc_extern Try.func83 (by kernel_rfl) (by kernel_rfl) (by kernel_rfl) (e := Extern.AbiNoEscape.same) (by kernel_rfl)]
    rw [Lib.run_noEscape]
    simp only [Result.andThen]
    rw [Oper.upon_value]
    go_wp2
    rw [Lib.run_from_unsafe w ⟨b, 0, none⟩ (by kernel_rfl) Try.underlying90 hj hsh liesB]
    simp only [Result.andThen]
    rw [Oper.upon_value]
    go_wp2
    go_end0
    exact ⟨rfl, HF.out⟩
  · have hq : (binOp .neq 90 (Pt b) (Pt b)).run Try.prog w = .ok (.bool false) w := Lib.run_neq_ptr_same w ⟨b, 0, none⟩ Try.underlying90 hj
    have HF := Hid.mk h
    clear h
    go_enter Try.func80, Try.ntmps80
    go_wp2
    go_end0
    exact ⟨rfl, HF.out, .refl _ _⟩
theorem append_str2 (w : World) (ty : TypeId) (v : Value) (da : List UInt8) (h : w.ownsRow 0 5 1 v da.length (da.map BV)) (s : ByteArray) (hb : da.length + s.size ≤ 140737488355328) :
    ∃ v' w', (Builtin.append_ #[54, 9] ty #[v, .string s]).run Try.prog w = .ok v' w' ∧ w'.ownsRow 0 5 1 v' (da ++ s.data.toList).length ((da ++ s.data.toList).map BV) ∧ Stay (fun k => v.ownBlock = some k) w w' ∧
      (∀ k, v'.ownBlock = some k → v.ownBlock = some k ∨ w.heap.size ≤ k) := by
  obtain ⟨i0, hi, hz0, hz1, hz2⟩ := info_parts Try.info5
  obtain ⟨v', w', hr, ho, hg, hnil⟩ := Lib.run_append_own_string (P := Try.prog) w 0 54 9 ty 5 i0 Try.underlying54 Try.underlying9 hi hz0 hz1 hz2 v da.length _ h s (by unfold maxLen; omega) (by omega) (Nat.zero_le _)
  refine ⟨v', w', hr, ?_, .grown hg (fun k hk => hk), ?_⟩
  · rw [strCells_BV, ← List.map_append] at ho
    rw [List.length_append, nm_size]; exact ho
  · intro k hk
    rcases h.2 with ⟨rfl, hn⟩ | ⟨g, cap, cur, rfl, _, hgc, hnc, hcm, hcs, htake⟩
    · have h' : w.ownsRow w.heap.size 5 1 (.slice none 0 0) 0 [] := World.ownsRow_nil _ _ _ _
      obtain ⟨v2, w2, hr2, ho2, _, _⟩ := Lib.run_append_own_string (P := Try.prog) w w.heap.size 54 9 ty 5 i0 Try.underlying54 Try.underlying9 hi hz0 hz1 hz2 _ 0 _ h' s (by unfold maxLen; omega) (by omega) (Nat.le_refl _)
      rw [hr] at hr2
      cases hr2
      exact .inr (ho2.lt k hk).1
    · by_cases hroom : da.length + s.size ≤ cap
      · have hr2 := Lib.run_append_room_string (P := Try.prog) w 54 9 ty 5 i0 Try.underlying54 Try.underlying9 hi hz1 g da.length cap cur hgc s hroom (by rw [hcs]; omega)
        rw [hr] at hr2
        cases hr2
        exact .inl hk
      · have holds := h.cells (g := g) rfl
        have hr2 := Lib.run_append_grow_string (P := Try.prog) w 54 9 ty 5 i0 (.int .u8 0) Try.underlying54 Try.underlying9 hi hz0 ⟨g, 0, none⟩ da.length cap (da.map BV) (by rw [hz1]; simp) holds s (by omega) (by omega) (by rw [hz2]; exact growslice_fits (by omega) (by omega))
        rw [hr] at hr2
        cases hr2
        cases hk
        exact .inr (Nat.le_refl _)
/-- append, as it was reckoned ahead. -/
theorem wpList_append_eq {P : Program} {w : World} {ops : Array Oper} {rest : List Oper} {o : Oper} {a : Act} {Q : Exit → Act → World → Prop} (hgd : o.guard = none) (s x : Operand) (t u : TypeId)
    (ho : o.op = .call { callee := .builtin .append, args := #[s, x], argTypes := #[t, u] }) (v xv v' : Value) (w' : World) (hs : a.eval s = v) (hx : a.eval x = xv) (hr : (Builtin.append_ #[t, u] o.type #[v, xv]).run P w = .ok v' w')
    (h : wpList P ops Q rest (a.put o.dst v') w') : wpList P ops Q (o :: rest) a w := by
  refine wpList_plain hgd fun K hK => ?_
  unfold Oper.wp execOp
  simp only [ho, resolve, invoke, builtin, Sem.run_bind, Sem.run_pure, Result.andThen_ok, List.map_toArray, List.map_cons, List.map_nil, hs, hx, hr]
  exact hK _ _ h
theorem bd_fin {w w1 : World} {b : Nat} {p v v' : Value} {l l' : List UInt8} (h : Bd w b p v l) (ho : w1.ownsRow 0 5 1 v' l'.length (l'.map BV)) (s1 : Stay (fun k => v.ownBlock = some k) w w1) (hloc : ∀ k, v'.ownBlock = some k → v.ownBlock = some k ∨ w.heap.size ≤ k) :
    Bd (w1.setCell ⟨b, 1, none⟩ v') b p v' l' ∧ Stay (fun k => k = b ∨ v.ownBlock = some k) w (w1.setCell ⟨b, 1, none⟩ v') := by
  have lb := (Array.getElem?_eq_some_iff.1 h.cells).1
  have hb1 : w1.heap[b]? = _ := (s1.block b lb (fun hk => h.row_b b hk rfl)).trans h.cells
  have s2 : Stay (· = b) w1 (w1.setCell ⟨b, 1, none⟩ v') := (Stay.refl (· = b) w1).setCell (p := ⟨b, 1, none⟩) (fun _ => rfl) _
  refine ⟨⟨h.adr, heap_setCell_same w1 b 1 _ _ _ hb1, row_kept ho s2 fun k hk e1 => ?_⟩, (s1.mono fun k _ hk => .inr hk).setCell (p := ⟨b, 1, none⟩) (fun _ => .inl rfl) _⟩
  rcases hloc k hk with h1 | h1
  · exact h.row_b k h1 e1
  · omega
set_option maxHeartbeats 4000000 in
set_option maxRecDepth 100000 in
theorem wstr_any {b : Nat} {p v : Value} {l : List UInt8} (s : ByteArray) (w : World) (h : Bd w b p v l) (hb : l.length + s.size ≤ 140737488355328) (R : Ending → World → Prop)
    (h1 : ∀ v' w', Bd w' b (Pt b) v' (l ++ s.data.toList) → Stay (fun k => k = b ∨ v.ownBlock = some k) w w' → (∀ k, v'.ownBlock = some k → v.ownBlock = some k ∨ w.heap.size ≤ k) → R (.returned (.tuple #[.int .i64 s.size, .nilIface])) w') :
    Calls Try.prog 61 #[Pt b, .string s] w R := by
  have hcc := copyCheck_any w h
  have HH := Hid.mk h
  have H1 := Hid.mk h1
  clear h h1
  go_enter Try.func61, Try.ntmps61
  go_wp2_with fail
  refine hcc.mono ?_
  rintro r w0 ⟨rfl, h, s0⟩
  obtain ⟨v', w1, hr, ho, s1, hloc⟩ := append_str2 w0 54 v l h.row s hb
  obtain ⟨hB, hS⟩ := bd_fin h ho s1 hloc
  have hR := Hid.mk (H1.out _ _ hB (s0.mono (G := fun k => k = b ∨ v.ownBlock = some k) (fun k _ e => .inl e) |>.trans hS) (fun k hk => (hloc k hk).imp_right (Nat.le_trans s0.size)))
  have lb := (Array.getElem?_eq_some_iff.1 h.cells).1
  have hb1 : w1.heap[b]? = _ := (s1.block b lb (fun hk => h.row_b b hk rfl)).trans h.cells
  obtain ⟨a, cap, hv, -⟩ := slice_form h.row
  obtain ⟨a', cap', hv', -⟩ := slice_form ho
  have c1 : w0.cell? ⟨b, 1, none⟩ = some v := by simp [World.cell?, h.cells]
  have c1' : w1.cell? ⟨b, 1, none⟩ = some v := by simp [World.cell?, hb1]
  have z1' : w1.frozen? ⟨b, 1, none⟩ = false := by simp [World.frozen?, hb1]
  clear hB hS H1 hcc
  obtain ⟨n', hn'⟩ : ∃ n', n' = (l ++ s.data.toList).length := ⟨_, rfl⟩
  rw [← hn'] at hv'
  clear hn'
  rw [hv] at c1 hr
  rw [hv'] at hr hR
  go_wp2_with (at_builtin; refine wpList_append_eq rfl _ _ _ _ rfl _ _ _ _ rfl rfl hr ?_)
  exact hR.out
theorem byte_app1 (W : World) (l : List UInt8) (v : Value) (h : W.ownsRow 0 5 1 v l.length (l.map BV)) (x : UInt8) (hb : l.length + 1 ≤ 140737488355328) :
    ∃ v' w', (Builtin.append_ #[54, 54] 54 #[v, .slice (some ⟨W.heap.size, 0, none⟩) 1 1]).run Try.prog (W.alloc (.cells #[.int .u8 x.toNat] 5)) = .ok v' w' ∧ w'.ownsRow 0 5 1 v' (l ++ [x]).length ((l ++ [x]).map BV) ∧ Stay (fun k => v.ownBlock = some k) W w' ∧ (∀ k, v'.ownBlock = some k → v.ownBlock = some k ∨ W.heap.size ≤ k) := by
  obtain ⟨i0, hi, hz0, hz1, hz2⟩ := info_parts Try.info5
  have h' : (W.alloc (.cells #[.int .u8 x.toNat] 5)).ownsRow 0 5 1 v l.length (l.map BV) := World.ownsRow.alloc h _
  have hc : ∀ (j : Nat) u, ([BV x] : List Value)[j]? = some u → (W.alloc (.cells #[.int .u8 x.toNat] 5)).cell? ((⟨W.heap.size, 0, none⟩ : Addr).add j) = some u := fun j u hu => by
    have := (HC.new W #[.int .u8 x.toNat] 5).cell (o := j) (v := u) (by simpa [BV] using hu)
    have e : (⟨W.heap.size, 0, none⟩ : Addr).add j = ⟨W.heap.size, j, none⟩ := by unfold Addr.add; split <;> simp_all
    rw [e]; exact this
  obtain ⟨v', w', hrun, ho, hg, _, hloc⟩ := run_append_own_at (P := Try.prog) (W.alloc (.cells #[.int .u8 x.toNat] 5)) 0 54 54 5 i0 _ 1 1 Try.underlying54 hi hz0 hz1 hz2 rfl (by decide) v l.length _ h' ⟨W.heap.size, 0, none⟩ 1 1 [BV x] rfl hc (fun u hu => by
    simp at hu; subst hu; rfl) (by unfold maxLen; omega) (by omega) (Nat.zero_le _)
  refine ⟨v', w', hrun, ?_, ((Stay.refl _ W).alloc _).trans (.grown hg (fun k hk => hk)), fun k hk => ?_⟩
  · rw [List.length_append, List.map_append]
    simpa using ho
  · rcases hloc with hl | hl
    · exact .inl (hl ▸ hk)
    · rw [hl] at hk; cases hk; exact .inr (by simp)
set_option maxHeartbeats 4000000 in
set_option maxRecDepth 100000 in
theorem wbyte_any {b : Nat} {p v : Value} {l : List UInt8} (x : UInt8) (w : World) (h : Bd w b p v l) (hb : l.length + 1 ≤ 140737488355328) (R : Ending → World → Prop)
    (h1 : ∀ v' w', Bd w' b (Pt b) v' (l ++ [x]) → Stay (fun k => k = b ∨ v.ownBlock = some k) w w' → (∀ k, v'.ownBlock = some k → v.ownBlock = some k ∨ w.heap.size ≤ k) → R (.returned .nilIface) w') :
    Calls Try.prog 58 #[Pt b, .int .u8 x.toNat] w R := by
  have hcc := copyCheck_any w h
  have HH := Hid.mk h
  have H1 := Hid.mk h1
  clear h h1
  go_enter Try.func58, Try.ntmps58
  go_wp2_with fail
  refine hcc.mono ?_
  rintro r w0 ⟨rfl, h, s0⟩
  obtain ⟨v', w1, hr, ho, s1, hloc⟩ := byte_app1 w0 l v h.row x hb
  obtain ⟨hB, hS⟩ := bd_fin h ho s1 hloc
  have hR := Hid.mk (H1.out _ _ hB (s0.mono (G := fun k => k = b ∨ v.ownBlock = some k) (fun k _ e => .inl e) |>.trans hS) (fun k hk => (hloc k hk).imp_right (Nat.le_trans s0.size)))
  have lb := (Array.getElem?_eq_some_iff.1 h.cells).1
  have hb1 : w1.heap[b]? = _ := (s1.block b lb (fun hk => h.row_b b hk rfl)).trans h.cells
  obtain ⟨a, cap, hv, -⟩ := slice_form h.row
  obtain ⟨a', cap', hv', -⟩ := slice_form ho
  have c1 : w0.cell? ⟨b, 1, none⟩ = some v := by simp [World.cell?, h.cells]
  have c1' : w1.cell? ⟨b, 1, none⟩ = some v := by simp [World.cell?, hb1]
  have z1' : w1.frozen? ⟨b, 1, none⟩ = false := by simp [World.frozen?, hb1]
  clear hB hS H1 hcc
  obtain ⟨n', hn'⟩ : ∃ n', n' = (l ++ [x]).length := ⟨_, rfl⟩
  rw [← hn'] at hv'
  clear hn'
  rw [hv] at c1 hr
  rw [hv'] at hr hR
  go_wp2_with (at_builtin; refine wpList_append_eq rfl _ _ _ _ rfl _ _ _ _ rfl rfl hr ?_)
  exact hR.out
end Go.Proofs.Ytjdknijjkjmafaa
