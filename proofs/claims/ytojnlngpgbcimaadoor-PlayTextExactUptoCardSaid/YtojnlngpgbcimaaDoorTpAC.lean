/-
  DERIVED. PlBuild, PlString, as one text.
-/
import Derived.Test.YtojnlngpgbcimaaDoorTpAA
import Derived.Test.YtojnlngpgbcimaaDoorTpAB
import Derived.Lib.Builder
import Derived.Lib.AppendStr
import Derived.Deep.RegionHeld
import Derived.Shelf.RegionOpenPlain
import Derived.Shelf.RegionOpen
import Derived.Lib.UnsafeStr
set_option linter.unusedVariables false
set_option linter.unusedSimpArgs false
namespace Go.Proofs.YtojnlngpgbcimaaDoor
open Go.RowKit
/-- A builder in block b, its address p (its own, or none yet), its buffer v, holding these bytes. -/
structure Bd (w : World) (b : Nat) (p v : Value) (l : List UInt8) : Prop where
  adr : p = .pointer none ∨ p = Pt b
  cells : w.heap[b]? = some (.cells #[p, v] 46 (0, 0))
  row : w.ownsRow 0 5 1 v l.length (l.map BV)
theorem Bd.row_b {w : World} {b : Nat} {p v : Value} {l : List UInt8} (h : Bd w b p v l) (k : Nat) (hk : v.ownBlock = some k) : k ≠ b := fun e1 => by
  obtain ⟨cur, hc⟩ := row_block h.row hk
  rw [e1, h.cells] at hc
  simp at hc
theorem Bd.kept {w w' : World} {b : Nat} {p v : Value} {l : List UInt8} {F : Nat → Prop} (h : Bd w b p v l) (s : Stay F w w') (h1 : ¬ F b) (h2 : ∀ k, v.ownBlock = some k → ¬ F k) : Bd w' b p v l :=
  ⟨h.adr, (s.block b (Array.getElem?_eq_some_iff.1 h.cells).1 h1).trans h.cells, row_kept h.row s h2⟩
theorem Bd.new (w : World) : Bd (w.alloc (.cells #[.pointer none, .slice none 0 0] 46)) w.heap.size (.pointer none) (.slice none 0 0) [] :=
  ⟨.inl rfl, heap_alloc_last w _, ⟨rfl, .inl ⟨rfl, rfl⟩⟩⟩
theorem infoB : (Tryd.prog.info? 46).map (·.size) = some 2 := by kernel_rfl
theorem liesB : liesAt Tryd.prog Tryd.prog.depth 46 (2 / Tryd.prog.cellsOf 46) 0 46 1 = true := by kernel_rfl
set_option maxHeartbeats 4000000 in
set_option maxRecDepth 100000 in
theorem copyCheck_any {b : Nat} {p v : Value} {l : List UInt8} (w : World) (h : Bd w b p v l) :
    Calls Tryd.prog 50 #[Pt b] w fun r w' => r = .returned (.tuple #[]) ∧ Bd w' b (Pt b) v l ∧ Stay (· = b) w w' := by
  have hc := h.cells
  have c0 : w.cell? ⟨b, 0, none⟩ = some p := by simp [World.cell?, hc]
  obtain ⟨j, hj, hjs⟩ := Option.map_eq_some_iff.1 infoB
  rcases h.adr with rfl | rfl
  · have z0 : w.frozen? ⟨b, 0, none⟩ = false := by simp [World.frozen?, hc]
    have hsh : w.shape? b = some (46, 2) := by simp [World.shape?, hc]
    have s1 : Stay (· = b) w (w.setCell ⟨b, 0, none⟩ (Pt b)) := (Stay.refl (· = b) w).setCell (p := ⟨b, 0, none⟩) (fun _ => rfl) _
    have HF := Hid.mk (show Bd (w.setCell ⟨b, 0, none⟩ (Pt b)) b (Pt b) v l ∧ Stay (· = b) w (w.setCell ⟨b, 0, none⟩ (Pt b)) from
      ⟨⟨.inr rfl, heap_setCell_same w b 0 _ _ _ hc, row_kept h.row s1 (fun k hk e => h.row_b k hk e)⟩, s1⟩)
    clear h s1
    go_enter Tryd.func50, Tryd.ntmps50
    go_wp2
    rw [Lib.run_to_unsafe w ⟨b, 0, none⟩ Tryd.underlying43 (by kernel_rfl) hj (by rw [hjs]; decide) hsh (Nat.zero_lt_succ 1)]
    simp only [Result.andThen]
    rw [Oper.upon_value]
    go_wp2
    rw [run_callFunc_extern Tryd.func61 (by kernel_rfl) (by kernel_rfl) (by kernel_rfl) (e := Extern.AbiNoEscape.same) (by kernel_rfl)]
    rw [Lib.run_noEscape]
    simp only [Result.andThen]
    rw [Oper.upon_value]
    go_wp2
    rw [Lib.run_from_unsafe w ⟨b, 0, none⟩ (by kernel_rfl) Tryd.underlying43 hj hsh liesB]
    simp only [Result.andThen]
    rw [Oper.upon_value]
    go_wp2
    go_end0
    exact ⟨rfl, HF.out⟩
  · have hq : (binOp .neq 43 (Pt b) (Pt b)).run Tryd.prog w = .ok (.bool false) w := Lib.run_neq_ptr_same w ⟨b, 0, none⟩ Tryd.underlying43 hj
    have HF := Hid.mk h
    clear h
    go_enter Tryd.func50, Tryd.ntmps50
    go_wp2
    go_end0
    exact ⟨rfl, HF.out, .refl _ _⟩
theorem append_str2 (w : World) (ty : TypeId) (v : Value) (da : List UInt8) (h : w.ownsRow 0 5 1 v da.length (da.map BV)) (s : ByteArray) (hb : da.length + s.size ≤ 140737488355328) :
    ∃ v' w', (Builtin.append_ #[44, 9] ty #[v, .string s]).run Tryd.prog w = .ok v' w' ∧ w'.ownsRow 0 5 1 v' (da ++ s.data.toList).length ((da ++ s.data.toList).map BV) ∧ Stay (fun k => v.ownBlock = some k) w w' ∧
      (∀ k, v'.ownBlock = some k → v.ownBlock = some k ∨ w.heap.size ≤ k) := by
  obtain ⟨i0, hi, hz0, hz1, hz2⟩ := info_parts Tryd.info5
  obtain ⟨v', w', hr, ho, hg, hnil⟩ := Lib.run_append_own_string (P := Tryd.prog) w 0 44 9 ty 5 i0 Tryd.underlying44 Tryd.underlying9 hi hz0 hz1 hz2 v da.length _ h s (by unfold maxLen; omega) (by omega) (Nat.zero_le _)
  refine ⟨v', w', hr, ?_, .grown hg (fun k hk => hk), ?_⟩
  · rw [strCells_BV, ← List.map_append] at ho
    rw [List.length_append, nm_size]; exact ho
  · intro k hk
    rcases h.2 with ⟨rfl, hn⟩ | ⟨g, cap, cur, rfl, _, hgc, hnc, hcm, hcs, htake⟩
    · have h' : w.ownsRow w.heap.size 5 1 (.slice none 0 0) 0 [] := World.ownsRow_nil _ _ _ _
      obtain ⟨v2, w2, hr2, ho2, _, _⟩ := Lib.run_append_own_string (P := Tryd.prog) w w.heap.size 44 9 ty 5 i0 Tryd.underlying44 Tryd.underlying9 hi hz0 hz1 hz2 _ 0 _ h' s (by unfold maxLen; omega) (by omega) (Nat.le_refl _)
      rw [hr] at hr2
      cases hr2
      exact .inr (ho2.lt k hk).1
    · by_cases hroom : da.length + s.size ≤ cap
      · have hr2 := Lib.run_append_room_string (P := Tryd.prog) w 44 9 ty 5 i0 Tryd.underlying44 Tryd.underlying9 hi hz1 g da.length cap cur hgc s hroom (by rw [hcs]; omega)
        rw [hr] at hr2
        cases hr2
        exact .inl hk
      · have holds := h.cells (g := g) rfl
        have hr2 := Lib.run_append_grow_string (P := Tryd.prog) w 44 9 ty 5 i0 (.int .u8 0) Tryd.underlying44 Tryd.underlying9 hi hz0 ⟨g, 0, none⟩ da.length cap (da.map BV) (by rw [hz1]; simp) holds s (by omega) (by omega) (by rw [hz2]; exact growslice_fits (by omega) (by omega))
        rw [hr] at hr2
        cases hr2
        cases hk
        exact .inr (Nat.le_refl _)
/-- append, as it was reckoned ahead. -/
theorem wpList_append_eq {P : Program} {w : World} {ops : Array Oper} {rest : List Oper} {o : Oper} {a : Act} {Q : Exit → Act → World → Prop} (hgd : o.guard = none) (s x : Operand) (t u : TypeId)
    (ho : o.op = .call { callee := .builtin .append, args := #[s, x], argTypes := #[t, u] }) (v xv v' : Value) (w' : World) (hs : a.eval s = v) (hx : a.eval x = xv) (hr : (Builtin.append_ #[t, u] o.type #[v, xv]).run P w = .ok v' w')
    (h : wpList P ops Q rest (a.put o.dst v') w') : wpList P ops Q (o :: rest) a w := by
  refine wpList_plain hgd fun K hK => ?_
  unfold Oper.wp execOp
  simp only [ho, resolve, invoke, builtin, Sem.run_bind, Sem.run_pure, Result.andThen_ok, List.map_toArray, List.map_cons, List.map_nil, hs, hx, hr]
  exact hK _ _ h
theorem bd_fin {w w1 : World} {b : Nat} {p v v' : Value} {l l' : List UInt8} (h : Bd w b p v l) (ho : w1.ownsRow 0 5 1 v' l'.length (l'.map BV)) (s1 : Stay (fun k => v.ownBlock = some k) w w1) (hloc : ∀ k, v'.ownBlock = some k → v.ownBlock = some k ∨ w.heap.size ≤ k) :
    Bd (w1.setCell ⟨b, 1, none⟩ v') b p v' l' ∧ Stay (fun k => k = b ∨ v.ownBlock = some k) w (w1.setCell ⟨b, 1, none⟩ v') := by
  have lb := (Array.getElem?_eq_some_iff.1 h.cells).1
  have hb1 : w1.heap[b]? = _ := (s1.block b lb (fun hk => h.row_b b hk rfl)).trans h.cells
  have s2 : Stay (· = b) w1 (w1.setCell ⟨b, 1, none⟩ v') := (Stay.refl (· = b) w1).setCell (p := ⟨b, 1, none⟩) (fun _ => rfl) _
  refine ⟨⟨h.adr, heap_setCell_same w1 b 1 _ _ _ hb1, row_kept ho s2 fun k hk e1 => ?_⟩, (s1.mono fun k _ hk => .inr hk).setCell (p := ⟨b, 1, none⟩) (fun _ => .inl rfl) _⟩
  rcases hloc k hk with h1 | h1
  · exact h.row_b k h1 e1
  · omega
set_option maxHeartbeats 4000000 in
set_option maxRecDepth 100000 in
theorem wstr_any {b : Nat} {p v : Value} {l : List UInt8} (s : ByteArray) (w : World) (h : Bd w b p v l) (hb : l.length + s.size ≤ 140737488355328) (R : Ending → World → Prop)
    (h1 : ∀ v' w', Bd w' b (Pt b) v' (l ++ s.data.toList) → Stay (fun k => k = b ∨ v.ownBlock = some k) w w' → (∀ k, v'.ownBlock = some k → v.ownBlock = some k ∨ w.heap.size ≤ k) → R (.returned (.tuple #[.int .i64 s.size, .nilIface])) w') :
    Calls Tryd.prog 33 #[Pt b, .string s] w R := by
  have hcc := copyCheck_any w h
  have HH := Hid.mk h
  have H1 := Hid.mk h1
  clear h h1
  go_enter Tryd.func33, Tryd.ntmps33
  go_wp2_with fail
  refine hcc.mono ?_
  rintro r w0 ⟨rfl, h, s0⟩
  obtain ⟨v', w1, hr, ho, s1, hloc⟩ := append_str2 w0 44 v l h.row s hb
  obtain ⟨hB, hS⟩ := bd_fin h ho s1 hloc
  have hR := Hid.mk (H1.out _ _ hB (s0.mono (G := fun k => k = b ∨ v.ownBlock = some k) (fun k _ e => .inl e) |>.trans hS) (fun k hk => (hloc k hk).imp_right (Nat.le_trans s0.size)))
  have lb := (Array.getElem?_eq_some_iff.1 h.cells).1
  have hb1 : w1.heap[b]? = _ := (s1.block b lb (fun hk => h.row_b b hk rfl)).trans h.cells
  obtain ⟨a, cap, hv, -⟩ := slice_form h.row
  obtain ⟨a', cap', hv', -⟩ := slice_form ho
  have c1 : w0.cell? ⟨b, 1, none⟩ = some v := by simp [World.cell?, h.cells]
  have c1' : w1.cell? ⟨b, 1, none⟩ = some v := by simp [World.cell?, hb1]
  have z1' : w1.frozen? ⟨b, 1, none⟩ = false := by simp [World.frozen?, hb1]
  clear hB hS H1 hcc
  obtain ⟨n', hn'⟩ : ∃ n', n' = (l ++ s.data.toList).length := ⟨_, rfl⟩
  rw [← hn'] at hv'
  clear hn'
  rw [hv] at c1 hr
  rw [hv'] at hr hR
  go_wp2_with (at_builtin; refine wpList_append_eq rfl _ _ _ _ rfl _ _ _ _ rfl rfl hr ?_)
  exact hR.out
theorem byte_app1 (W : World) (l : List UInt8) (v : Value) (h : W.ownsRow 0 5 1 v l.length (l.map BV)) (x : UInt8) (hb : l.length + 1 ≤ 140737488355328) :
    ∃ v' w', (Builtin.append_ #[44, 44] 44 #[v, .slice (some ⟨W.heap.size, 0, none⟩) 1 1]).run Tryd.prog (W.alloc (.cells #[.int .u8 x.toNat] 5)) = .ok v' w' ∧ w'.ownsRow 0 5 1 v' (l ++ [x]).length ((l ++ [x]).map BV) ∧ Stay (fun k => v.ownBlock = some k) W w' ∧ (∀ k, v'.ownBlock = some k → v.ownBlock = some k ∨ W.heap.size ≤ k) := by
  obtain ⟨i0, hi, hz0, hz1, hz2⟩ := info_parts Tryd.info5
  have h' : (W.alloc (.cells #[.int .u8 x.toNat] 5)).ownsRow 0 5 1 v l.length (l.map BV) := World.ownsRow.alloc h _
  have hc : ∀ (j : Nat) u, ([BV x] : List Value)[j]? = some u → (W.alloc (.cells #[.int .u8 x.toNat] 5)).cell? ((⟨W.heap.size, 0, none⟩ : Addr).add j) = some u := fun j u hu => Rw.cells_new W [BV x] 5 j u hu
  obtain ⟨v', w', hrun, ho, hg, _, hloc⟩ := run_append_own_at (P := Tryd.prog) (W.alloc (.cells #[.int .u8 x.toNat] 5)) 0 44 44 5 i0 _ 1 1 Tryd.underlying44 hi hz0 hz1 hz2 rfl (by decide) v l.length _ h' ⟨W.heap.size, 0, none⟩ 1 1 [BV x] rfl hc (fun u hu => by
    simp at hu; subst hu; rfl) (by unfold maxLen; omega) (by omega) (Nat.zero_le _)
  refine ⟨v', w', hrun, ?_, ((Stay.refl _ W).alloc _).trans (.grown hg (fun k hk => hk)), fun k hk => ?_⟩
  · rw [List.length_append, List.map_append]
    simpa using ho
  · rcases hloc with hl | hl
    · exact .inl (hl ▸ hk)
    · rw [hl] at hk; cases hk; exact .inr (by simp)
set_option maxHeartbeats 4000000 in
set_option maxRecDepth 100000 in
theorem wbyte_any {b : Nat} {p v : Value} {l : List UInt8} (x : UInt8) (w : World) (h : Bd w b p v l) (hb : l.length + 1 ≤ 140737488355328) (R : Ending → World → Prop)
    (h1 : ∀ v' w', Bd w' b (Pt b) v' (l ++ [x]) → Stay (fun k => k = b ∨ v.ownBlock = some k) w w' → (∀ k, v'.ownBlock = some k → v.ownBlock = some k ∨ w.heap.size ≤ k) → R (.returned .nilIface) w') :
    Calls Tryd.prog 37 #[Pt b, .int .u8 x.toNat] w R := by
  have hcc := copyCheck_any w h
  have HH := Hid.mk h
  have H1 := Hid.mk h1
  clear h h1
  go_enter Tryd.func37, Tryd.ntmps37
  go_wp2_with fail
  refine hcc.mono ?_
  rintro r w0 ⟨rfl, h, s0⟩
  obtain ⟨v', w1, hr, ho, s1, hloc⟩ := byte_app1 w0 l v h.row x hb
  obtain ⟨hB, hS⟩ := bd_fin h ho s1 hloc
  have hR := Hid.mk (H1.out _ _ hB (s0.mono (G := fun k => k = b ∨ v.ownBlock = some k) (fun k _ e => .inl e) |>.trans hS) (fun k hk => (hloc k hk).imp_right (Nat.le_trans s0.size)))
  have lb := (Array.getElem?_eq_some_iff.1 h.cells).1
  have hb1 : w1.heap[b]? = _ := (s1.block b lb (fun hk => h.row_b b hk rfl)).trans h.cells
  obtain ⟨a, cap, hv, -⟩ := slice_form h.row
  obtain ⟨a', cap', hv', -⟩ := slice_form ho
  have c1 : w0.cell? ⟨b, 1, none⟩ = some v := by simp [World.cell?, h.cells]
  have c1' : w1.cell? ⟨b, 1, none⟩ = some v := by simp [World.cell?, hb1]
  have z1' : w1.frozen? ⟨b, 1, none⟩ = false := by simp [World.frozen?, hb1]
  clear hB hS H1 hcc
  obtain ⟨n', hn'⟩ : ∃ n', n' = (l ++ [x]).length := ⟨_, rfl⟩
  rw [← hn'] at hv'
  clear hn'
  rw [hv] at c1 hr
  rw [hv'] at hr hR
  go_wp2_with (at_builtin; refine wpList_append_eq rfl _ _ _ _ rfl _ _ _ _ rfl rfl hr ?_)
  exact hR.out
end Go.Proofs.YtojnlngpgbcimaaDoor
set_option linter.unusedVariables false
set_option linter.unusedSimpArgs false
namespace Go.Proofs.YtojnlngpgbcimaaDoor
open Go.RowKit
theorem stay_freeze {F : Nat → Prop} {a w : World} (h : Stay F a w) {p : Addr} (hp : F p.block) (n : Nat) : Stay F a (w.freeze p n) := by
  refine h.trans ?_
  unfold World.freeze
  split
  · exact Stay.refl F w
  · exact ⟨rfl, rfl, rfl, by simp, fun k hk hF => by
      simp only [Array.getElem?_modify]
      rw [if_neg (fun e : p.block = k => hF (e ▸ hp))]⟩
set_option maxHeartbeats 1000000 in
set_option maxRecDepth 100000 in
theorem string_any {b : Nat} {p v : Value} {l : List UInt8} (w : World) (h : Bd w b p v l) (h0 : l ≠ []) :
    Calls Tryd.prog 20 #[Pt b] w fun r w' => r = .returned (.string ⟨l.toArray⟩) ∧ Stay (fun k => v.ownBlock = some k) w w' := by
  have hl0 : 0 < l.length := List.length_pos_iff.2 h0
  obtain ⟨g, cap, cur, rfl, hbg, hg, hnc, hcm, hcs, htake⟩ : ∃ g cap cur, v = .slice (some ⟨g, 0, none⟩) l.length cap ∧ 0 ≤ g ∧ w.heap[g]? = some (.cells cur 5 (0, 0)) ∧ l.length ≤ cap ∧ cap ≤ maxLen ∧ cur.size = cap * 1 ∧ cur.toList.take (l.length * 1) = l.map BV := by
    rcases h.row.2 with ⟨_, hz⟩ | ⟨g, cap, cur, hv, r⟩
    · omega
    · exact ⟨g, cap, cur, hv, r⟩
  have hbk := h.cells
  have c1 : w.drew.cell? ⟨b, 1, none⟩ = some (.slice (some ⟨g, 0, none⟩) l.length cap) := by
    have : w.drew.heap[b]? = some (.cells #[p, .slice (some ⟨g, 0, none⟩) l.length cap] 46 (0, 0)) := hbk
    rw [Lib.cell_of_heap this]; rfl
  have hSD : (Builtin.unsafeSliceData_ #[44] 78 #[.slice (some ⟨g, 0, none⟩) l.length cap]).run Tryd.prog w.drew = .ok (.pointer (some ⟨g, 0, none⟩)) w.drew :=
    Lib.run_unsafeSliceData_row _ _ _ _ _ _ (by omega)
  have hUS : (Builtin.unsafeString_ #[78, 3] 9 #[.pointer (some ⟨g, 0, none⟩), .int .i64 l.length]).run Tryd.prog w.drew = .ok (.string ⟨l.toArray⟩) (w.drew.freeze ⟨g, 0, none⟩ l.length) := by
    refine Lib.run_unsafeString_row w.drew 78 3 9 5 Tryd.underlying78 (by kernel_rfl) g cur.size (by have hg' : w.drew.heap[g]? = some (.cells cur 5 (0, 0)) := hg; simp [World.shape?, hg']) l h0 (by omega) (by unfold maxLen at hcm; omega) ?_
    intro j x hx
    exact h.row.cells (g := g) rfl j (.int .u8 x.toNat) (by simp [BV, hx])
  have HS := Hid.mk (stay_freeze (F := fun k => Value.ownBlock (.slice (some ⟨g, 0, none⟩) l.length cap) = some k) (Stay.drew (Stay.refl _ w)) (p := ⟨g, 0, none⟩) rfl l.length)
  have mixed : Tryd.prog.follows .mixedOrders = true := by kernel_rfl
  clear h hbk
  go_enter Tryd.func20, Tryd.ntmps20
  go_wp2
  go_region_o
  all_goals (go_wp2; go_ret; exact ⟨rfl, HS.out⟩)
end Go.Proofs.YtojnlngpgbcimaaDoor
