/-
  DERIVED. DAppend, DCut, DDelete, as one text.
-/
import Derived.Test.YtfijjlkhgelmoaaGreatDoorTzAC
namespace Go.Proofs.YtfijjlkhgelmoaaGreatDoor.Dk
open Go.RowKit Go.Maps Go.Proofs.DiskMath
/-- A builtin of two arguments, as one step of a region that draws. -/
theorem step_append_eq {P : Program} {ops : Array Oper} {o : Oper} {a : Act} {w : World} {K : Act → World → Prop} {Q : Exit → Act → World → Prop} {E : Prop}
    (hg : o.guard = none) (s x : Operand) (t u : TypeId) (hop : o.op = Op.call { callee := Callee.builtin Builtin.append, args := #[s, x], argTypes := #[t, u] })
    (v xv v' : Value) (w' : World) (hs : a.eval s = v) (hx : a.eval x = xv) (hrun : (Builtin.append_ #[t, u] o.type #[v, xv]).run P w = .ok v' w') (hK : K (a.put o.dst v') w') :
    if Region.wanted o (yielded ops a.tmps) = true then Oper.wp P o a w K Q else E := by
  have hw : Region.wanted o (yielded ops a.tmps) = true := by simp [Region.wanted, hg]
  rw [if_pos hw]
  unfold Oper.wp
  simp [execOp, hop, resolve, invoke, builtin, hs, hx, hrun, Result.andThen]
  exact hK
theorem step_delete_eq {P : Program} {ops : Array Oper} {o : Oper} {a : Act} {w : World} {K : Act → World → Prop} {Q : Exit → Act → World → Prop} {E : Prop}
    (hg : o.guard = none) (s x : Operand) (t u : TypeId) (hop : o.op = Op.call { callee := Callee.builtin Builtin.delete, args := #[s, x], argTypes := #[t, u] })
    (v xv v' : Value) (w' : World) (hs : a.eval s = v) (hx : a.eval x = xv) (hrun : (Builtin.delete_ #[t, u] o.type #[v, xv]).run P w = .ok v' w') (hK : K (a.put o.dst v') w') :
    if Region.wanted o (yielded ops a.tmps) = true then Oper.wp P o a w K Q else E := by
  have hw : Region.wanted o (yielded ops a.tmps) = true := by simp [Region.wanted, hg]
  rw [if_pos hw]
  unfold Oper.wp
  simp [execOp, hop, resolve, invoke, builtin, hs, hx, hrun, Result.andThen]
  exact hK
theorem undrew {F : Nat → Prop} {a b : World} (h : Stay F a.drew b) : Stay F a b := ⟨h.os, h.tape, h.output, h.size, h.block⟩
theorem append_str (w : World) (ty : TypeId) (v : Value) (da : List UInt8) (h : w.ownsRow 0 5 1 v da.length (da.map BV)) (s : ByteArray) (hb : da.length + s.size ≤ 268435456) :
    ∃ v' w', (Builtin.append_ #[55, 9] ty #[v, .string s]).run Tryz.prog w = .ok v' w' ∧ w'.ownsRow 0 5 1 v' (da ++ s.data.toList).length ((da ++ s.data.toList).map BV) ∧ Stay (fun k => v.ownBlock = some k) w w' ∧
      (∀ k, v'.ownBlock = some k → v.ownBlock = some k ∨ w.heap.size ≤ k) := by
  obtain ⟨i0, hi, hz0, hz1, hz2⟩ := info_parts Tryz.info5
  obtain ⟨v', w', hr, ho, hg, hnil⟩ := Lib.run_append_own_string (P := Tryz.prog) w 0 55 9 ty 5 i0 Tryz.underlying55 Tryz.underlying9 hi hz0 hz1 hz2 v da.length _ h s (by unfold maxLen; omega) (by omega) (Nat.zero_le _)
  refine ⟨v', w', hr, ?_, .grown hg (fun k hk => hk), ?_⟩
  · rw [strCells_BV, ← List.map_append] at ho
    rw [List.length_append, nm_size]; exact ho
  · intro k hk
    rcases h.2 with ⟨rfl, hn⟩ | ⟨g, cap, cur, rfl, _, hgc, hnc, hcm, hcs, htake⟩
    · have h' : w.ownsRow w.heap.size 5 1 (.slice none 0 0) 0 [] := World.ownsRow_nil _ _ _ _
      obtain ⟨v2, w2, hr2, ho2, _, _⟩ := Lib.run_append_own_string (P := Tryz.prog) w w.heap.size 55 9 ty 5 i0 Tryz.underlying55 Tryz.underlying9 hi hz0 hz1 hz2 _ 0 _ h' s (by unfold maxLen; omega) (by omega) (Nat.le_refl _)
      rw [hr] at hr2
      cases hr2
      exact .inr (ho2.lt k hk).1
    · by_cases hroom : da.length + s.size ≤ cap
      · have hr2 := Lib.run_append_room_string (P := Tryz.prog) w 55 9 ty 5 i0 Tryz.underlying55 Tryz.underlying9 hi hz1 g da.length cap cur hgc s hroom (by rw [hcs]; omega)
        rw [hr] at hr2
        cases hr2
        exact .inl hk
      · have holds := h.cells (g := g) rfl
        have hr2 := Lib.run_append_grow_string (P := Tryz.prog) w 55 9 ty 5 i0 (.int .u8 0) Tryz.underlying55 Tryz.underlying9 hi hz0 ⟨g, 0, none⟩ da.length cap (da.map BV) (by rw [hz1]; simp) holds s (by omega) (by omega) (by rw [hz2]; exact growslice_fits (by omega) (by omega))
        rw [hr] at hr2
        cases hr2
        cases hk
        exact .inr (Nat.le_refl _)
theorem app_fin {w W : World} {p mb : Nat} {es : List Ent} {c : Ctl} {e : Ent} {s : ByteArray} {v' : Value} (h : DK w p mb es c) (he : e ∈ es) (fe : FileAt w e) (hu : used (modE es { e with da := e.da ++ s.data.toList, v := v' }) = used es + s.size)
    (hs1 : Stay (fun k => k = p ∨ foot e k) w W) (f1 : W.heap[e.fb]? = some (.cells #[v', .int .i64 e.du] 57 (0, 0))) (oW : W.ownsRow 0 5 1 v' (e.da ++ s.data.toList).length ((e.da ++ s.data.toList).map BV))
    (hloc : ∀ k, v'.ownBlock = some k → e.v.ownBlock = some k ∨ w.heap.size ≤ k)
    (kP : W.heap[p]? = some (.cells #[.map (some mb), .int .i64 c.cap, .int .i64 (used es), .bool c.off, .int .i64 c.left, .bool c.dn, .int .i64 c.age, .int .i64 c.wr] 52 (0, 0))) (hbig : e.da.length + s.size ≤ 268435456) (hfull : used es + s.size ≤ c.cap) :
    DK (W.setCell ⟨p, 2, none⟩ (.int .i64 ((used es : Int) + (s.size : Int)))).drew p mb (modE es { e with da := e.da ++ s.data.toList, v := v' }) c ∧ Stay (fun k => k = p ∨ foot e k) w (W.setCell ⟨p, 2, none⟩ (.int .i64 ((used es : Int) + (s.size : Int)))).drew := by
  have s2 : Stay (· = p) W (W.setCell ⟨p, 2, none⟩ (.int .i64 ((used es : Int) + (s.size : Int)))).drew := ((Stay.refl (· = p) W).setCell (p := ⟨p, 2, none⟩) (fun _ => rfl) _).drew
  have sT : Stay (fun k => k = p ∨ foot e k) w (W.setCell ⟨p, 2, none⟩ (.int .i64 ((used es : Int) + (s.size : Int)))).drew := (hs1.setCell (p := ⟨p, 2, none⟩) (fun _ => .inl rfl) _).drew
  have hpfb : e.fb ≠ p := fun e1 => h.p_foot he (.inl e1.symm)
  refine ⟨h.mod (x := { e with da := e.da ++ s.data.toList, v := v' }) he rfl rfl sT ⟨?_, ?_, ?_, ?_⟩ hloc (by rw [hu]; exact hfull) ?_, sT⟩
  · exact (s2.block _ (Array.getElem?_eq_some_iff.1 f1).1 hpfb).trans f1
  · refine row_kept oW s2 fun k hk hkp => ?_
    obtain ⟨cur, hc⟩ := row_block oW hk
    rw [hkp, kP] at hc
    simp at hc
  · have := fe.du; simp only [List.length_append]; omega
  · simp only [List.length_append, nm_size]; exact hbig
  · rw [hu]
    exact heap_setCell_same W p 2 _ _ _ kP
set_option maxHeartbeats 4000000 in
set_option maxRecDepth 100000 in
theorem append1_any {p mb : Nat} {es : List Ent} {c : Ctl} (e : Ent) (s : ByteArray) (bf bs bd : Nat) (w : World) (h : DK w p mb es c) (he : e ∈ es) (hd : w.cell? ⟨bd, 0, none⟩ = some (Pt p)) (hf : w.cell? ⟨bf, 0, none⟩ = some (Pt e.fb)) (hs : w.cell? ⟨bs, 0, none⟩ = some (.string s))
    (nf : ∀ k, k = bd ∨ k = bf ∨ k = bs → ¬ Foot p mb es k) (hbig : e.da.length + s.size ≤ 268435456) (hfull : used es + s.size ≤ c.cap) :
    Calls Tryz.prog 30 #[Pt bf, Pt bs, Pt bd] w fun r w' => r = .returned (.tuple #[]) ∧ ∃ v, DK w' p mb (modE es { e with da := e.da ++ s.data.toList, v := v }) c ∧ Stay (fun k => k = p ∨ foot e k) w w' ∧ (∀ k, v.ownBlock = some k → e.v.ownBlock = some k ∨ w.heap.size ≤ k) := by
  have fe := h.hf e he
  obtain ⟨c0, c1⟩ := fe.cell
  obtain ⟨p0, p1, p2, _⟩ := h.cell
  obtain ⟨a, cap, hv, hcap⟩ := slice_form fe.row
  obtain ⟨v', w1, hap, ho, s1, hloc⟩ := append_str w.drew 55 e.v e.da fe.row s hbig
  have hcp := h.cap
  obtain ⟨a', cap', hv', _⟩ := slice_form ho
  have key : ∀ {k : Nat}, k < w.heap.size → (e.v.ownBlock ≠ some k) → w1.heap[k]? = w.heap[k]? := fun hk hn => s1.block _ hk hn
  have lbd : bd < w.heap.size := World.block_lt_of_cell? w _ hd
  have lbf : bf < w.heap.size := World.block_lt_of_cell? w _ hf
  have lbs : bs < w.heap.size := World.block_lt_of_cell? w _ hs
  have nof : ∀ k, k = bd ∨ k = bf ∨ k = bs → e.v.ownBlock ≠ some k := fun k hk hn => nf k hk (.inr (.inr ⟨e, he, .inr hn⟩))
  have nob : ∀ k, k = bd ∨ k = bf ∨ k = bs → k ≠ e.fb := fun k hk hn => nf k hk (.inr (.inr ⟨e, he, .inl hn⟩))
  have k0 := (key (h.lt (.inr (.inr ⟨e, he, .inl rfl⟩))) (fun hn => fe.row_fb _ hn rfl)).trans fe.cells
  have c0' : w1.cell? ⟨e.fb, 0, none⟩ = some e.v := by simp [World.cell?, k0]
  have z0' : w1.frozen? ⟨e.fb, 0, none⟩ = false := by simp [World.frozen?, k0]
  have kp := (key (h.lt (.inl rfl)) (fun hn => h.p_foot he (.inr hn))).trans h.hp
  rw [List.length_append, nm_size] at hv'
  have kf1 : w1.cell? ⟨bf, 0, none⟩ = some (Pt e.fb) := (World.cell?_of_block (w := w) (key lbf (nof bf (.inr (.inl rfl))))).trans hf
  have W1 : ∃ W, W = w1.setCell ⟨e.fb, 0, none⟩ v' := ⟨_, rfl⟩
  obtain ⟨W, hW⟩ := W1
  have hother : ∀ k, k ≠ e.fb → W.heap[k]? = w1.heap[k]? := fun k hk => by rw [hW]; exact Below.heap_setCell w1 ⟨e.fb, 0, none⟩ v' k hk
  have kd : W.cell? ⟨bd, 0, none⟩ = some (Pt p) := by
    rw [World.cell?_of_block (w := w1) (hother bd (nob bd (.inl rfl))), World.cell?_of_block (w := w) (key lbd (nof bd (.inl rfl)))]; exact hd
  have ks : W.cell? ⟨bs, 0, none⟩ = some (.string s) := by
    rw [World.cell?_of_block (w := w1) (hother bs (nob bs (.inr (.inr rfl)))), World.cell?_of_block (w := w) (key lbs (nof bs (.inr (.inr rfl))))]; exact hs
  have kP : W.heap[p]? = _ := (hother p (fun e1 => h.p_foot he (.inl e1))).trans kp
  have p2' : W.cell? ⟨p, 2, none⟩ = some (.int .i64 (used es)) := by simp [World.cell?, kP]
  have zp' : W.frozen? ⟨p, 2, none⟩ = false := by simp [World.frozen?, kP]
  have f0 := (h.hf e he).cells
  rw [hv] at c0 hap
  have hu : used (modE es { e with da := e.da ++ s.data.toList, v := v' }) = used es + s.size := by
    have := used_mod h.srt he (x := { e with da := e.da ++ s.data.toList, v := v' }) rfl
    simp only [List.length_append, nm_size] at this; omega
  have hs1 : Stay (fun k => k = p ∨ foot e k) w W := by
    rw [hW]
    exact undrew <| (s1.mono (G := fun k => k = p ∨ foot e k) (fun k _ hk => .inr (.inr hk))).setCell (p := ⟨e.fb, 0, none⟩) (fun _ => .inr (.inl rfl)) _
  have f1 : W.heap[e.fb]? = some (.cells #[v', .int .i64 e.du] 57 (0, 0)) := by rw [hW]; exact heap_setCell_same w1 _ 0 _ _ _ k0
  have oW : W.ownsRow 0 5 1 v' (e.da ++ s.data.toList).length ((e.da ++ s.data.toList).map BV) := row_kept ho (F := (· = e.fb)) (by rw [hW]; exact (Stay.refl (· = e.fb) w1).setCell (p := ⟨e.fb, 0, none⟩) (fun _ => rfl) _) (fun k hk => by
    rcases hloc k hk with h1 | h1
    · exact fe.row_fb k h1
    · have : w.heap.size ≤ k := h1
      have := h.lt (.inr (.inr ⟨e, he, .inl rfl⟩)); omega)
  have hQ :=  app_fin h he fe hu hs1 f1 oW hloc kP hbig hfull
  rw [hv'] at hap hW
  go_enter Tryz.func30, Tryz.ntmps30
  go_wp2
  go_region_law (refine step_append_eq rfl _ _ _ _ rfl _ _ _ _ rfl rfl hap ?_)
  all_goals
    rw [← hW]
    clear hap c0' z0' hW c0 c1 p0 p1 p2 hd hf hs k0 kf1
    go_wp2
    go_region
    go_wp2
    go_end0
    exact ⟨rfl, v', hQ.1, hQ.2, hloc⟩
end Go.Proofs.YtfijjlkhgelmoaaGreatDoor.Dk
set_option linter.unusedVariables false
set_option linter.unusedSimpArgs false
set_option linter.unnecessarySimpa false
namespace Go.Proofs.YtfijjlkhgelmoaaGreatDoor.Dk
open Go.RowKit Go.Maps Go.Proofs.DiskMath
theorem row_take {w : World} {a : Option Addr} {len cap : Nat} {da : List UInt8} (h : w.ownsRow 0 5 1 (.slice a len cap) len (da.map BV)) (n : Nat) (hn : n ≤ len) : w.ownsRow 0 5 1 (.slice a n cap) (da.take n).length ((da.take n).map BV) := by
  have hl : da.length = len := by have := h.1; simpa using this
  have hl2 : (da.take n).length = n := by rw [List.length_take]; omega
  rw [hl2]
  rcases h with ⟨h1, ⟨h2, h3⟩ | ⟨g, cap', cur, h2, h3, h4, h5, h6, h7, h8⟩⟩
  · cases h2
    obtain rfl : n = 0 := by omega
    exact ⟨by simp, .inl ⟨rfl, rfl⟩⟩
  · cases h2
    refine ⟨by simp; omega, .inr ⟨g, cap, cur, rfl, h3, h4, by omega, h6, h7, ?_⟩⟩
    rw [List.map_take, ← h8, List.take_take, show min n (len * 1) = n * 1 by omega]
theorem cut_fin {w : World} {p mb : Nat} {es : List Ent} {c : Ctl} {e : Ent} {a : Option Addr} {cap n : Nat} (h : DK w p mb es c) (he : e ∈ es) (fe : FileAt w e) (hv : e.v = .slice a e.da.length cap) (hle : n ≤ e.da.length) :
    DK (((w.setCell ⟨p, 2, none⟩ (.int .i64 ((used es : Int) - ((e.da.length : Int) - (n : Int))))).setCell ⟨e.fb, 0, none⟩ (.slice a n cap)).setCell ⟨e.fb, 1, none⟩ (.int .i64 (min e.du n : Nat))).drew.drew.drew p mb (modE es { e with da := e.da.take n, du := min e.du n, v := .slice a n cap }) c ∧
    Stay (fun k => k = p ∨ foot e k) w (((w.setCell ⟨p, 2, none⟩ (.int .i64 ((used es : Int) - ((e.da.length : Int) - (n : Int))))).setCell ⟨e.fb, 0, none⟩ (.slice a n cap)).setCell ⟨e.fb, 1, none⟩ (.int .i64 (min e.du n : Nat))).drew.drew.drew := by
  have hpfb : e.fb ≠ p := fun e1 => h.p_foot he (.inl e1.symm)
  have hl2 : (e.da.take n).length = n := by rw [List.length_take]; omega
  have hum := used_mem he
  have hu : used (modE es { e with da := e.da.take n, du := min e.du n, v := .slice a n cap }) + e.da.length = used es + n := by
    have := used_mod h.srt he (x := { e with da := e.da.take n, du := min e.du n, v := .slice a n cap }) rfl
    dsimp only at this; rw [hl2] at this; exact this
  obtain ⟨W, hW⟩ : ∃ W, W = (((w.setCell ⟨p, 2, none⟩ (.int .i64 ((used es : Int) - ((e.da.length : Int) - (n : Int))))).setCell ⟨e.fb, 0, none⟩ (.slice a n cap)).setCell ⟨e.fb, 1, none⟩ (.int .i64 (min e.du n : Nat))).drew.drew.drew := ⟨_, rfl⟩
  rw [← hW]
  have s2 : Stay (fun k => k = p ∨ k = e.fb) w W := by
    rw [hW]
    exact ((((((Stay.refl (fun k => k = p ∨ k = e.fb) w).setCell (p := ⟨p, 2, none⟩) (fun _ => .inl rfl) _).setCell (p := ⟨e.fb, 0, none⟩) (fun _ => .inr rfl) _).setCell (p := ⟨e.fb, 1, none⟩) (fun _ => .inr rfl) _).drew).drew).drew
  have sT := s2.mono (G := fun k => k = p ∨ foot e k) (fun k _ hk => hk.imp id .inl)
  have f1 : W.heap[e.fb]? = some (.cells #[.slice a n cap, .int .i64 (min e.du n : Nat)] 57 (0, 0)) := by
    rw [hW]
    have h0 : (w.setCell ⟨p, 2, none⟩ (.int .i64 ((used es : Int) - ((e.da.length : Int) - (n : Int))))).heap[e.fb]? = _ := (Below.heap_setCell w ⟨p, 2, none⟩ _ e.fb hpfb).trans fe.cells
    exact heap_setCell_same _ _ 1 _ _ _ (heap_setCell_same _ _ 0 _ _ _ h0)
  have hp1 : W.heap[p]? = some (.cells #[.map (some mb), .int .i64 c.cap, .int .i64 ((used es : Int) - ((e.da.length : Int) - (n : Int))), .bool c.off, .int .i64 c.left, .bool c.dn, .int .i64 c.age, .int .i64 c.wr] 52 (0, 0)) := by
    rw [hW]
    have h0 := heap_setCell_same w p 2 _ _ (.int .i64 ((used es : Int) - ((e.da.length : Int) - (n : Int)))) h.hp
    exact ((Below.heap_setCell _ ⟨e.fb, 1, none⟩ _ p (Ne.symm hpfb)).trans (Below.heap_setCell _ ⟨e.fb, 0, none⟩ _ p (Ne.symm hpfb))).trans h0
  have oW : W.ownsRow 0 5 1 e.v e.da.length (e.da.map BV) := row_kept fe.row s2 fun k hk hkp => by
    rcases hkp with rfl | rfl
    · exact h.p_foot he (.inr hk)
    · exact fe.row_fb _ hk rfl
  rw [hv] at oW
  have hdu := fe.du
  have hda := fe.da
  refine ⟨h.mod (x := { e with da := e.da.take n, du := min e.du n, v := .slice a n cap }) he rfl rfl sT ⟨f1, row_take oW n hle, ?_, ?_⟩ (fun k hk => .inl (by rw [hv]; cases a <;> simpa [Value.ownBlock] using hk)) ?_ ?_, sT⟩
  · dsimp only; rw [hl2]; omega
  · dsimp only; rw [hl2]; omega
  · have := h.full; omega
  · rw [hp1, show ((used es : Int) - ((e.da.length : Int) - (n : Int))) = ((used (modE es { e with da := e.da.take n, du := min e.du n, v := .slice a n cap }) : Nat) : Int) by omega]
set_option maxHeartbeats 4000000 in
set_option maxRecDepth 100000 in
theorem cut1_any {p mb : Nat} {es : List Ent} {c : Ctl} (e : Ent) (n : Nat) (bd bf bn : Nat) (w : World) (h : DK w p mb es c) (he : e ∈ es) (hd : w.cell? ⟨bd, 0, none⟩ = some (Pt p)) (hf : w.cell? ⟨bf, 0, none⟩ = some (Pt e.fb)) (hn : w.cell? ⟨bn, 0, none⟩ = some (.int .i64 n))
    (nf : ∀ k, k = bd ∨ k = bf ∨ k = bn → ¬ Foot p mb es k) (hle : n ≤ e.da.length) :
    Calls Tryz.prog 49 #[Pt bd, Pt bf, Pt bn] w fun r w' => r = .returned (.tuple #[]) ∧ ∃ v, DK w' p mb (modE es { e with da := e.da.take n, du := min e.du n, v := v }) c ∧ Stay (fun k => k = p ∨ foot e k) w w' ∧ v.ownBlock = e.v.ownBlock := by
  have fe := h.hf e he
  obtain ⟨c0, c1⟩ := fe.cell
  obtain ⟨p0, p1, p2, _⟩ := h.cell
  have hda := fe.da
  have hfl := h.full
  have hcp := h.cap
  have hum := used_mem he
  obtain ⟨a, cap, hv, hcap⟩ := slice_form fe.row
  have n1 : bd ≠ p := fun e1 => nf bd (.inl rfl) (.inl e1)
  have n2 : bf ≠ p := fun e1 => nf bf (.inr (.inl rfl)) (.inl e1)
  have n3 : bn ≠ p := fun e1 => nf bn (.inr (.inr rfl)) (.inl e1)
  have m1 : bd ≠ e.fb := fun e1 => nf bd (.inl rfl) (.inr (.inr ⟨e, he, .inl e1⟩))
  have m2 : bf ≠ e.fb := fun e1 => nf bf (.inr (.inl rfl)) (.inr (.inr ⟨e, he, .inl e1⟩))
  have m3 : bn ≠ e.fb := fun e1 => nf bn (.inr (.inr rfl)) (.inr (.inr ⟨e, he, .inl e1⟩))
  have m4 : p ≠ e.fb := fun e1 => h.p_foot he (.inl e1)
  have z0 := fe.frz 0
  have z1 := fe.frz 1
  have z2 := h.frz 2
  rw [hv] at c0
  have hQ := cut_fin h he fe hv hle
  by_cases hdn : e.du ≤ n
  · have hq : ¬ ((n : Int) < (e.du : Int)) := by omega
    rw [Nat.min_eq_left hdn] at hQ ⊢
    go_enter Tryz.func49, Tryz.ntmps49
    go_wp2
    go_region
    go_wp2
    go_region
    go_wp2
    go_region
    all_goals
      go_wp2
      go_end0
      exact ⟨rfl, _, hQ.1, hQ.2, by rw [hv]; cases a <;> rfl⟩
  · have hq : (n : Int) < (e.du : Int) := by omega
    rw [Nat.min_eq_right (by omega)] at hQ ⊢
    go_enter Tryz.func49, Tryz.ntmps49
    go_wp2
    go_region
    go_wp2
    go_region
    go_wp2
    go_region
    all_goals
      go_wp2
      go_end0
      exact ⟨rfl, _, hQ.1, hQ.2, by rw [hv]; cases a <;> rfl⟩
end Go.Proofs.YtfijjlkhgelmoaaGreatDoor.Dk
set_option linter.unusedVariables false
set_option linter.unusedSimpArgs false
set_option linter.unnecessarySimpa false
namespace Go.Proofs.YtfijjlkhgelmoaaGreatDoor.Dk
open Go.RowKit Go.Maps Go.Proofs.DiskMath
theorem map_tight {w : World} {mb n : Nat} {es : List Ent} (h : w.ownsMap Tryz.prog 9 ptrE mb n (dmap es)) : w.ownsMap Tryz.prog 9 ptrE mb es.length (dmap es) := by
  obtain ⟨xs, cl, hb, F, _, hD⟩ := h
  refine ⟨xs, cl, hb, F, ?_, hD⟩
  have h1 := dmap_size es
  rw [hD] at h1
  simp only [Maps.size, length_sorted, List.length_map, Array.length_toList] at h1
  omega
/-- The same files, some gone, some with another name. -/
theorem DK.remap {w W : World} {p mb n : Nat} {es es2 : List Ent} {c : Ctl} (h : DK w p mb es c) (s : Stay (fun k => k = p ∨ k = mb) w W) (hm : W.ownsMap Tryz.prog 9 ptrE mb n (dmap es2))
    (hold : ∀ x ∈ es2, ∃ y ∈ es, x.fb = y.fb ∧ x.v = y.v ∧ x.da = y.da ∧ x.du = y.du) (hsep : es2.Pairwise fun a b => a.fb ≠ b.fb ∧ ∀ k, a.v.ownBlock = some k → b.v.ownBlock ≠ some k) (hsrt : Srt es2) (hnms : ∀ e ∈ es2, isNm e.nm = true) (hlen : es2.length ≤ 4096) (hfull : used es2 ≤ c.cap)
    (hp : W.heap[p]? = some (.cells #[.map (some mb), .int .i64 c.cap, .int .i64 (used es2), .bool c.off, .int .i64 c.left, .bool c.dn, .int .i64 c.age, .int .i64 c.wr] 52 (0, 0))) : DK W p mb es2 c :=
  { hp := hp
    hm := map_tight hm
    hf := fun x hx => by
      obtain ⟨y, hy, h1, h2, h3, h4⟩ := hold x hx
      have fy := (h.hf y hy).kept s fun k hk => by
        rintro (rfl | rfl)
        · exact h.p_foot hy hk
        · exact h.mb_foot hy hk
      exact ⟨by rw [h1, h2, h4]; exact fy.cells, by rw [h2, h3]; exact fy.row, by rw [h3, h4]; exact fy.du, by rw [h3]; exact fy.da⟩
    sep := hsep
    srt := hsrt
    nms := hnms
    many := hlen
    full := hfull
    cap := h.cap
    left := h.left
    age := h.age
    wr := h.wr }
theorem DK.del {w W : World} {p mb n : Nat} {es : List Ent} {c : Ctl} (h : DK w p mb es c) {e : Ent} (he : e ∈ es) (s : Stay (fun k => k = p ∨ k = mb) w W) (hm : W.ownsMap Tryz.prog 9 ptrE mb n (dmap (delE es e.nm)))
    (hp : W.heap[p]? = some (.cells #[.map (some mb), .int .i64 c.cap, .int .i64 (used (delE es e.nm)), .bool c.off, .int .i64 c.left, .bool c.dn, .int .i64 c.age, .int .i64 c.wr] 52 (0, 0))) : DK W p mb (delE es e.nm) c := by
  have hu := used_del h.srt he
  have hf := h.full
  refine h.remap s hm (fun x hx => ⟨x, (delE_mem.1 hx).1, rfl, rfl, rfl, rfl⟩) (h.sep.filter _) (h.srt.del _) (fun x hx => h.nms x (delE_mem.1 hx).1) (Nat.le_trans (List.length_filter_le _ _) h.many) (by omega) hp
/-- A key taken out of the map. -/
theorem drop_eq {w : World} {mb n : Nat} {es : List Ent} (ty : TypeId) (h : w.ownsMap Tryz.prog 9 ptrE mb n (dmap es)) (s : ByteArray) (hs : s.size ≤ 32) :
    ∃ w', (Builtin.delete_ #[50, 9] ty #[.map (some mb), .string s]).run Tryz.prog w = .ok (.tuple #[]) w' ∧ w'.ownsMap Tryz.prog 9 ptrE mb n (dmap (delE es s.data.toList)) ∧ w.grownBy w' (some mb) ∧ w'.heap.size = w.heap.size := by
  obtain ⟨w', hr, ho, ht⟩ := h.drop (e := 53) law9 Tryz.underlying50 (WideMaps.keyOf_string_mk Tryz.underlying9 (s := s) (by unfold maxLen; omega)) ty
  refine ⟨w', hr, ?_, ht.grown, ?_⟩
  · rw [dmap_del] at ho; exact ho
  · obtain ⟨_, _, _, _, _, rfl⟩ := ht; simp [ChangeMaps.setBlock]
theorem cell_grown {w w' : World} {mb : Nat} {a : Addr} {v : Value} (hg : w.grownBy w' (some mb)) (h : w.cell? a = some v) (hne : a.block ≠ mb) : w'.cell? a = some v := hg.cell h (fun e => hne (Option.some.inj e))
theorem cell_map {w : World} {mb n : Nat} {D : DataW Unit} (h : w.ownsMap Tryz.prog 9 ptrE mb n D) {a : Addr} {v : Value} (hc : w.cell? a = some v) (hsp : a.spot = none) : a.block ≠ mb := fun e => by
  obtain ⟨x, y, hb⟩ := map_block h
  simp [World.cell?, e, hb] at hc
end Go.Proofs.YtfijjlkhgelmoaaGreatDoor.Dk
