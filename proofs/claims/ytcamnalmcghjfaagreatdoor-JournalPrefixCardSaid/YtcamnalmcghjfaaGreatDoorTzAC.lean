/-
  DERIVED. DAppend, DCut, DDelete, DOps, as one text.
-/
import Derived.Test.YtcamnalmcghjfaaGreatDoorTzAB
namespace Go.Proofs.YtcamnalmcghjfaaGreatDoor.Dk
open Go.RowKit Go.Maps Go.Proofs.DiskMath
/-- A builtin of two arguments, as one step of a region that draws. -/
theorem step_append_eq {P : Program} {ops : Array Oper} {o : Oper} {a : Act} {w : World} {K : Act → World → Prop} {Q : Exit → Act → World → Prop} {E : Prop}
    (hg : o.guard = none) (s x : Operand) (t u : TypeId) (hop : o.op = Op.call { callee := Callee.builtin Builtin.append, args := #[s, x], argTypes := #[t, u] })
    (v xv v' : Value) (w' : World) (hs : a.eval s = v) (hx : a.eval x = xv) (hrun : (Builtin.append_ #[t, u] o.type #[v, xv]).run P w = .ok v' w') (hK : K (a.put o.dst v') w') :
    if Region.wanted o (yielded ops a.tmps) = true then Oper.wp P o a w K Q else E := by
  have hw : Region.wanted o (yielded ops a.tmps) = true := by simp [Region.wanted, hg]
  rw [if_pos hw]
  unfold Oper.wp
  simp [execOp, hop, resolve, invoke, builtin, hs, hx, hrun, Result.andThen]
  exact hK
theorem step_delete_eq {P : Program} {ops : Array Oper} {o : Oper} {a : Act} {w : World} {K : Act → World → Prop} {Q : Exit → Act → World → Prop} {E : Prop}
    (hg : o.guard = none) (s x : Operand) (t u : TypeId) (hop : o.op = Op.call { callee := Callee.builtin Builtin.delete, args := #[s, x], argTypes := #[t, u] })
    (v xv v' : Value) (w' : World) (hs : a.eval s = v) (hx : a.eval x = xv) (hrun : (Builtin.delete_ #[t, u] o.type #[v, xv]).run P w = .ok v' w') (hK : K (a.put o.dst v') w') :
    if Region.wanted o (yielded ops a.tmps) = true then Oper.wp P o a w K Q else E := by
  have hw : Region.wanted o (yielded ops a.tmps) = true := by simp [Region.wanted, hg]
  rw [if_pos hw]
  unfold Oper.wp
  simp [execOp, hop, resolve, invoke, builtin, hs, hx, hrun, Result.andThen]
  exact hK
theorem undrew {F : Nat → Prop} {a b : World} (h : Stay F a.drew b) : Stay F a b := ⟨h.os, h.tape, h.output, h.size, h.block⟩
theorem append_str (w : World) (ty : TypeId) (v : Value) (da : List UInt8) (h : w.ownsRow 0 5 1 v da.length (da.map BV)) (s : ByteArray) (hb : da.length + s.size ≤ 268435456) :
    ∃ v' w', (Builtin.append_ #[64, 9] ty #[v, .string s]).run Tryz.prog w = .ok v' w' ∧ w'.ownsRow 0 5 1 v' (da ++ s.data.toList).length ((da ++ s.data.toList).map BV) ∧ Stay (fun k => v.ownBlock = some k) w w' ∧
      (∀ k, v'.ownBlock = some k → v.ownBlock = some k ∨ w.heap.size ≤ k) := by
  obtain ⟨i0, hi, hz0, hz1, hz2⟩ := info_parts Tryz.info5
  obtain ⟨v', w', hr, ho, hg, hnil⟩ := Lib.run_append_own_string (P := Tryz.prog) w 0 64 9 ty 5 i0 Tryz.underlying64 Tryz.underlying9 hi hz0 hz1 hz2 v da.length _ h s (by unfold maxLen; omega) (by omega) (Nat.zero_le _)
  refine ⟨v', w', hr, ?_, .grown hg (fun k hk => hk), ?_⟩
  · rw [strCells_BV, ← List.map_append] at ho
    rw [List.length_append, nm_size]; exact ho
  · intro k hk
    rcases h.2 with ⟨rfl, hn⟩ | ⟨g, cap, cur, rfl, _, hgc, hnc, hcm, hcs, htake⟩
    · have h' : w.ownsRow w.heap.size 5 1 (.slice none 0 0) 0 [] := World.ownsRow_nil _ _ _ _
      obtain ⟨v2, w2, hr2, ho2, _, _⟩ := Lib.run_append_own_string (P := Tryz.prog) w w.heap.size 64 9 ty 5 i0 Tryz.underlying64 Tryz.underlying9 hi hz0 hz1 hz2 _ 0 _ h' s (by unfold maxLen; omega) (by omega) (Nat.le_refl _)
      rw [hr] at hr2
      cases hr2
      exact .inr (ho2.lt k hk).1
    · by_cases hroom : da.length + s.size ≤ cap
      · have hr2 := Lib.run_append_room_string (P := Tryz.prog) w 64 9 ty 5 i0 Tryz.underlying64 Tryz.underlying9 hi hz1 g da.length cap cur hgc s hroom (by rw [hcs]; omega)
        rw [hr] at hr2
        cases hr2
        exact .inl hk
      · have holds := h.cells (g := g) rfl
        have hr2 := Lib.run_append_grow_string (P := Tryz.prog) w 64 9 ty 5 i0 (.int .u8 0) Tryz.underlying64 Tryz.underlying9 hi hz0 ⟨g, 0, none⟩ da.length cap (da.map BV) (by rw [hz1]; simp) holds s (by omega) (by omega) (by rw [hz2]; exact growslice_fits (by omega) (by omega))
        rw [hr] at hr2
        cases hr2
        cases hk
        exact .inr (Nat.le_refl _)
theorem app_fin {w W : World} {p mb : Nat} {es : List Ent} {c : Ctl} {e : Ent} {s : ByteArray} {v' : Value} (h : DK w p mb es c) (he : e ∈ es) (fe : FileAt w e) (hu : used (modE es { e with da := e.da ++ s.data.toList, v := v' }) = used es + s.size)
    (hs1 : Stay (fun k => k = p ∨ foot e k) w W) (f1 : W.heap[e.fb]? = some (.cells #[v', .int .i64 e.du] 66 (0, 0))) (oW : W.ownsRow 0 5 1 v' (e.da ++ s.data.toList).length ((e.da ++ s.data.toList).map BV))
    (hloc : ∀ k, v'.ownBlock = some k → e.v.ownBlock = some k ∨ w.heap.size ≤ k)
    (kP : W.heap[p]? = some (.cells #[.map (some mb), .int .i64 c.cap, .int .i64 (used es), .bool c.off, .int .i64 c.left, .bool c.dn, .int .i64 c.age, .int .i64 c.wr] 53 (0, 0))) (hbig : e.da.length + s.size ≤ 268435456) (hfull : used es + s.size ≤ c.cap) :
    DK (W.setCell ⟨p, 2, none⟩ (.int .i64 ((used es : Int) + (s.size : Int)))).drew p mb (modE es { e with da := e.da ++ s.data.toList, v := v' }) c ∧ Stay (fun k => k = p ∨ foot e k) w (W.setCell ⟨p, 2, none⟩ (.int .i64 ((used es : Int) + (s.size : Int)))).drew := by
  have s2 : Stay (· = p) W (W.setCell ⟨p, 2, none⟩ (.int .i64 ((used es : Int) + (s.size : Int)))).drew := ((Stay.refl (· = p) W).setCell (p := ⟨p, 2, none⟩) (fun _ => rfl) _).drew
  have sT : Stay (fun k => k = p ∨ foot e k) w (W.setCell ⟨p, 2, none⟩ (.int .i64 ((used es : Int) + (s.size : Int)))).drew := (hs1.setCell (p := ⟨p, 2, none⟩) (fun _ => .inl rfl) _).drew
  have hpfb : e.fb ≠ p := fun e1 => h.p_foot he (.inl e1.symm)
  refine ⟨h.mod (x := { e with da := e.da ++ s.data.toList, v := v' }) he rfl rfl sT ⟨?_, ?_, ?_, ?_⟩ hloc (by rw [hu]; exact hfull) ?_, sT⟩
  · exact (s2.block _ (Array.getElem?_eq_some_iff.1 f1).1 hpfb).trans f1
  · refine row_kept oW s2 fun k hk hkp => ?_
    obtain ⟨cur, hc⟩ := row_block oW hk
    rw [hkp, kP] at hc
    simp at hc
  · have := fe.du; simp only [List.length_append]; omega
  · simp only [List.length_append, nm_size]; exact hbig
  · rw [hu]
    exact heap_setCell_same W p 2 _ _ _ kP
set_option maxHeartbeats 4000000 in
set_option maxRecDepth 100000 in
theorem append1_any {p mb : Nat} {es : List Ent} {c : Ctl} (e : Ent) (s : ByteArray) (bf bs bd : Nat) (w : World) (h : DK w p mb es c) (he : e ∈ es) (hd : w.cell? ⟨bd, 0, none⟩ = some (Pt p)) (hf : w.cell? ⟨bf, 0, none⟩ = some (Pt e.fb)) (hs : w.cell? ⟨bs, 0, none⟩ = some (.string s))
    (nf : ∀ k, k = bd ∨ k = bf ∨ k = bs → ¬ Foot p mb es k) (hbig : e.da.length + s.size ≤ 268435456) (hfull : used es + s.size ≤ c.cap) :
    Calls Tryz.prog 60 #[Pt bf, Pt bs, Pt bd] w fun r w' => r = .returned (.tuple #[]) ∧ ∃ v, DK w' p mb (modE es { e with da := e.da ++ s.data.toList, v := v }) c ∧ Stay (fun k => k = p ∨ foot e k) w w' ∧ (∀ k, v.ownBlock = some k → e.v.ownBlock = some k ∨ w.heap.size ≤ k) := by
  have fe := h.hf e he
  obtain ⟨c0, c1⟩ := fe.cell
  obtain ⟨p0, p1, p2, _⟩ := h.cell
  obtain ⟨a, cap, hv, hcap⟩ := slice_form fe.row
  obtain ⟨v', w1, hap, ho, s1, hloc⟩ := append_str w.drew 64 e.v e.da fe.row s hbig
  have hcp := h.cap
  obtain ⟨a', cap', hv', _⟩ := slice_form ho
  have key : ∀ {k : Nat}, k < w.heap.size → (e.v.ownBlock ≠ some k) → w1.heap[k]? = w.heap[k]? := fun hk hn => s1.block _ hk hn
  have lbd : bd < w.heap.size := World.block_lt_of_cell? w _ hd
  have lbf : bf < w.heap.size := World.block_lt_of_cell? w _ hf
  have lbs : bs < w.heap.size := World.block_lt_of_cell? w _ hs
  have nof : ∀ k, k = bd ∨ k = bf ∨ k = bs → e.v.ownBlock ≠ some k := fun k hk hn => nf k hk (.inr (.inr ⟨e, he, .inr hn⟩))
  have nob : ∀ k, k = bd ∨ k = bf ∨ k = bs → k ≠ e.fb := fun k hk hn => nf k hk (.inr (.inr ⟨e, he, .inl hn⟩))
  have k0 := (key (h.lt (.inr (.inr ⟨e, he, .inl rfl⟩))) (fun hn => fe.row_fb _ hn rfl)).trans fe.cells
  have c0' : w1.cell? ⟨e.fb, 0, none⟩ = some e.v := by simp [World.cell?, k0]
  have z0' : w1.frozen? ⟨e.fb, 0, none⟩ = false := by simp [World.frozen?, k0]
  have kp := (key (h.lt (.inl rfl)) (fun hn => h.p_foot he (.inr hn))).trans h.hp
  rw [List.length_append, nm_size] at hv'
  have kf1 : w1.cell? ⟨bf, 0, none⟩ = some (Pt e.fb) := (World.cell?_of_block (w := w) (key lbf (nof bf (.inr (.inl rfl))))).trans hf
  have W1 : ∃ W, W = w1.setCell ⟨e.fb, 0, none⟩ v' := ⟨_, rfl⟩
  obtain ⟨W, hW⟩ := W1
  have hother : ∀ k, k ≠ e.fb → W.heap[k]? = w1.heap[k]? := fun k hk => by rw [hW]; exact Below.heap_setCell w1 ⟨e.fb, 0, none⟩ v' k hk
  have kd : W.cell? ⟨bd, 0, none⟩ = some (Pt p) := by
    rw [World.cell?_of_block (w := w1) (hother bd (nob bd (.inl rfl))), World.cell?_of_block (w := w) (key lbd (nof bd (.inl rfl)))]; exact hd
  have ks : W.cell? ⟨bs, 0, none⟩ = some (.string s) := by
    rw [World.cell?_of_block (w := w1) (hother bs (nob bs (.inr (.inr rfl)))), World.cell?_of_block (w := w) (key lbs (nof bs (.inr (.inr rfl))))]; exact hs
  have kP : W.heap[p]? = _ := (hother p (fun e1 => h.p_foot he (.inl e1))).trans kp
  have p2' : W.cell? ⟨p, 2, none⟩ = some (.int .i64 (used es)) := by simp [World.cell?, kP]
  have zp' : W.frozen? ⟨p, 2, none⟩ = false := by simp [World.frozen?, kP]
  have f0 := (h.hf e he).cells
  rw [hv] at c0 hap
  have hu : used (modE es { e with da := e.da ++ s.data.toList, v := v' }) = used es + s.size := by
    have := used_mod h.srt he (x := { e with da := e.da ++ s.data.toList, v := v' }) rfl
    simp only [List.length_append, nm_size] at this; omega
  have hs1 : Stay (fun k => k = p ∨ foot e k) w W := by
    rw [hW]
    exact undrew <| (s1.mono (G := fun k => k = p ∨ foot e k) (fun k _ hk => .inr (.inr hk))).setCell (p := ⟨e.fb, 0, none⟩) (fun _ => .inr (.inl rfl)) _
  have f1 : W.heap[e.fb]? = some (.cells #[v', .int .i64 e.du] 66 (0, 0)) := by rw [hW]; exact heap_setCell_same w1 _ 0 _ _ _ k0
  have oW : W.ownsRow 0 5 1 v' (e.da ++ s.data.toList).length ((e.da ++ s.data.toList).map BV) := row_kept ho (F := (· = e.fb)) (by rw [hW]; exact (Stay.refl (· = e.fb) w1).setCell (p := ⟨e.fb, 0, none⟩) (fun _ => rfl) _) (fun k hk => by
    rcases hloc k hk with h1 | h1
    · exact fe.row_fb k h1
    · have : w.heap.size ≤ k := h1
      have := h.lt (.inr (.inr ⟨e, he, .inl rfl⟩)); omega)
  have hQ :=  app_fin h he fe hu hs1 f1 oW hloc kP hbig hfull
  rw [hv'] at hap hW
  go_enter Tryz.func60, Tryz.ntmps60
  go_wp2
  go_region_law (refine step_append_eq rfl _ _ _ _ rfl _ _ _ _ rfl rfl hap ?_)
  all_goals
    rw [← hW]
    clear hap c0' z0' hW c0 c1 p0 p1 p2 hd hf hs k0 kf1
    go_wp2
    go_region
    go_wp2
    go_end0
    exact ⟨rfl, v', hQ.1, hQ.2, hloc⟩
end Go.Proofs.YtcamnalmcghjfaaGreatDoor.Dk
set_option linter.unusedVariables false
set_option linter.unusedSimpArgs false
set_option linter.unnecessarySimpa false
namespace Go.Proofs.YtcamnalmcghjfaaGreatDoor.Dk
open Go.RowKit Go.Maps Go.Proofs.DiskMath
theorem row_take {w : World} {a : Option Addr} {len cap : Nat} {da : List UInt8} (h : w.ownsRow 0 5 1 (.slice a len cap) len (da.map BV)) (n : Nat) (hn : n ≤ len) : w.ownsRow 0 5 1 (.slice a n cap) (da.take n).length ((da.take n).map BV) := by
  have hl : da.length = len := by have := h.1; simpa using this
  have hl2 : (da.take n).length = n := by rw [List.length_take]; omega
  rw [hl2]
  rcases h with ⟨h1, ⟨h2, h3⟩ | ⟨g, cap', cur, h2, h3, h4, h5, h6, h7, h8⟩⟩
  · cases h2
    obtain rfl : n = 0 := by omega
    exact ⟨by simp, .inl ⟨rfl, rfl⟩⟩
  · cases h2
    refine ⟨by simp; omega, .inr ⟨g, cap, cur, rfl, h3, h4, by omega, h6, h7, ?_⟩⟩
    rw [List.map_take, ← h8, List.take_take, show min n (len * 1) = n * 1 by omega]
theorem cut_fin {w : World} {p mb : Nat} {es : List Ent} {c : Ctl} {e : Ent} {a : Option Addr} {cap n : Nat} (h : DK w p mb es c) (he : e ∈ es) (fe : FileAt w e) (hv : e.v = .slice a e.da.length cap) (hle : n ≤ e.da.length) :
    DK (((w.setCell ⟨p, 2, none⟩ (.int .i64 ((used es : Int) - ((e.da.length : Int) - (n : Int))))).setCell ⟨e.fb, 0, none⟩ (.slice a n cap)).setCell ⟨e.fb, 1, none⟩ (.int .i64 (min e.du n : Nat))).drew.drew.drew p mb (modE es { e with da := e.da.take n, du := min e.du n, v := .slice a n cap }) c ∧
    Stay (fun k => k = p ∨ foot e k) w (((w.setCell ⟨p, 2, none⟩ (.int .i64 ((used es : Int) - ((e.da.length : Int) - (n : Int))))).setCell ⟨e.fb, 0, none⟩ (.slice a n cap)).setCell ⟨e.fb, 1, none⟩ (.int .i64 (min e.du n : Nat))).drew.drew.drew := by
  have hpfb : e.fb ≠ p := fun e1 => h.p_foot he (.inl e1.symm)
  have hl2 : (e.da.take n).length = n := by rw [List.length_take]; omega
  have hum := used_mem he
  have hu : used (modE es { e with da := e.da.take n, du := min e.du n, v := .slice a n cap }) + e.da.length = used es + n := by
    have := used_mod h.srt he (x := { e with da := e.da.take n, du := min e.du n, v := .slice a n cap }) rfl
    dsimp only at this; rw [hl2] at this; exact this
  obtain ⟨W, hW⟩ : ∃ W, W = (((w.setCell ⟨p, 2, none⟩ (.int .i64 ((used es : Int) - ((e.da.length : Int) - (n : Int))))).setCell ⟨e.fb, 0, none⟩ (.slice a n cap)).setCell ⟨e.fb, 1, none⟩ (.int .i64 (min e.du n : Nat))).drew.drew.drew := ⟨_, rfl⟩
  rw [← hW]
  have s2 : Stay (fun k => k = p ∨ k = e.fb) w W := by
    rw [hW]
    exact ((((((Stay.refl (fun k => k = p ∨ k = e.fb) w).setCell (p := ⟨p, 2, none⟩) (fun _ => .inl rfl) _).setCell (p := ⟨e.fb, 0, none⟩) (fun _ => .inr rfl) _).setCell (p := ⟨e.fb, 1, none⟩) (fun _ => .inr rfl) _).drew).drew).drew
  have sT := s2.mono (G := fun k => k = p ∨ foot e k) (fun k _ hk => hk.imp id .inl)
  have f1 : W.heap[e.fb]? = some (.cells #[.slice a n cap, .int .i64 (min e.du n : Nat)] 66 (0, 0)) := by
    rw [hW]
    have h0 : (w.setCell ⟨p, 2, none⟩ (.int .i64 ((used es : Int) - ((e.da.length : Int) - (n : Int))))).heap[e.fb]? = _ := (Below.heap_setCell w ⟨p, 2, none⟩ _ e.fb hpfb).trans fe.cells
    exact heap_setCell_same _ _ 1 _ _ _ (heap_setCell_same _ _ 0 _ _ _ h0)
  have hp1 : W.heap[p]? = some (.cells #[.map (some mb), .int .i64 c.cap, .int .i64 ((used es : Int) - ((e.da.length : Int) - (n : Int))), .bool c.off, .int .i64 c.left, .bool c.dn, .int .i64 c.age, .int .i64 c.wr] 53 (0, 0)) := by
    rw [hW]
    have h0 := heap_setCell_same w p 2 _ _ (.int .i64 ((used es : Int) - ((e.da.length : Int) - (n : Int)))) h.hp
    exact ((Below.heap_setCell _ ⟨e.fb, 1, none⟩ _ p (Ne.symm hpfb)).trans (Below.heap_setCell _ ⟨e.fb, 0, none⟩ _ p (Ne.symm hpfb))).trans h0
  have oW : W.ownsRow 0 5 1 e.v e.da.length (e.da.map BV) := row_kept fe.row s2 fun k hk hkp => by
    rcases hkp with rfl | rfl
    · exact h.p_foot he (.inr hk)
    · exact fe.row_fb _ hk rfl
  rw [hv] at oW
  have hdu := fe.du
  have hda := fe.da
  refine ⟨h.mod (x := { e with da := e.da.take n, du := min e.du n, v := .slice a n cap }) he rfl rfl sT ⟨f1, row_take oW n hle, ?_, ?_⟩ (fun k hk => .inl (by rw [hv]; cases a <;> simpa [Value.ownBlock] using hk)) ?_ ?_, sT⟩
  · dsimp only; rw [hl2]; omega
  · dsimp only; rw [hl2]; omega
  · have := h.full; omega
  · rw [hp1, show ((used es : Int) - ((e.da.length : Int) - (n : Int))) = ((used (modE es { e with da := e.da.take n, du := min e.du n, v := .slice a n cap }) : Nat) : Int) by omega]
set_option maxHeartbeats 4000000 in
set_option maxRecDepth 100000 in
theorem cut1_any {p mb : Nat} {es : List Ent} {c : Ctl} (e : Ent) (n : Nat) (bd bf bn : Nat) (w : World) (h : DK w p mb es c) (he : e ∈ es) (hd : w.cell? ⟨bd, 0, none⟩ = some (Pt p)) (hf : w.cell? ⟨bf, 0, none⟩ = some (Pt e.fb)) (hn : w.cell? ⟨bn, 0, none⟩ = some (.int .i64 n))
    (nf : ∀ k, k = bd ∨ k = bf ∨ k = bn → ¬ Foot p mb es k) (hle : n ≤ e.da.length) :
    Calls Tryz.prog 81 #[Pt bd, Pt bf, Pt bn] w fun r w' => r = .returned (.tuple #[]) ∧ ∃ v, DK w' p mb (modE es { e with da := e.da.take n, du := min e.du n, v := v }) c ∧ Stay (fun k => k = p ∨ foot e k) w w' ∧ v.ownBlock = e.v.ownBlock := by
  have fe := h.hf e he
  obtain ⟨c0, c1⟩ := fe.cell
  obtain ⟨p0, p1, p2, _⟩ := h.cell
  have hda := fe.da
  have hfl := h.full
  have hcp := h.cap
  have hum := used_mem he
  obtain ⟨a, cap, hv, hcap⟩ := slice_form fe.row
  have n1 : bd ≠ p := fun e1 => nf bd (.inl rfl) (.inl e1)
  have n2 : bf ≠ p := fun e1 => nf bf (.inr (.inl rfl)) (.inl e1)
  have n3 : bn ≠ p := fun e1 => nf bn (.inr (.inr rfl)) (.inl e1)
  have m1 : bd ≠ e.fb := fun e1 => nf bd (.inl rfl) (.inr (.inr ⟨e, he, .inl e1⟩))
  have m2 : bf ≠ e.fb := fun e1 => nf bf (.inr (.inl rfl)) (.inr (.inr ⟨e, he, .inl e1⟩))
  have m3 : bn ≠ e.fb := fun e1 => nf bn (.inr (.inr rfl)) (.inr (.inr ⟨e, he, .inl e1⟩))
  have m4 : p ≠ e.fb := fun e1 => h.p_foot he (.inl e1)
  have z0 := fe.frz 0
  have z1 := fe.frz 1
  have z2 := h.frz 2
  rw [hv] at c0
  have hQ := cut_fin h he fe hv hle
  by_cases hdn : e.du ≤ n
  · have hq : ¬ ((n : Int) < (e.du : Int)) := by omega
    rw [Nat.min_eq_left hdn] at hQ ⊢
    go_enter Tryz.func81, Tryz.ntmps81
    go_wp2
    go_region
    go_wp2
    go_region
    go_wp2
    go_region
    all_goals
      go_wp2
      go_end0
      exact ⟨rfl, _, hQ.1, hQ.2, by rw [hv]; cases a <;> rfl⟩
  · have hq : (n : Int) < (e.du : Int) := by omega
    rw [Nat.min_eq_right (by omega)] at hQ ⊢
    go_enter Tryz.func81, Tryz.ntmps81
    go_wp2
    go_region
    go_wp2
    go_region
    go_wp2
    go_region
    all_goals
      go_wp2
      go_end0
      exact ⟨rfl, _, hQ.1, hQ.2, by rw [hv]; cases a <;> rfl⟩
end Go.Proofs.YtcamnalmcghjfaaGreatDoor.Dk
set_option linter.unusedVariables false
set_option linter.unusedSimpArgs false
set_option linter.unnecessarySimpa false
namespace Go.Proofs.YtcamnalmcghjfaaGreatDoor.Dk
open Go.RowKit Go.Maps Go.Proofs.DiskMath
theorem map_tight {w : World} {mb n : Nat} {es : List Ent} (h : w.ownsMap Tryz.prog 9 ptrE mb n (dmap es)) : w.ownsMap Tryz.prog 9 ptrE mb es.length (dmap es) := by
  obtain ⟨xs, cl, hb, F, _, hD⟩ := h
  refine ⟨xs, cl, hb, F, ?_, hD⟩
  have h1 := dmap_size es
  rw [hD] at h1
  simp only [Maps.size, length_sorted, List.length_map, Array.length_toList] at h1
  omega
/-- The same files, some gone, some with another name. -/
theorem DK.remap {w W : World} {p mb n : Nat} {es es2 : List Ent} {c : Ctl} (h : DK w p mb es c) (s : Stay (fun k => k = p ∨ k = mb) w W) (hm : W.ownsMap Tryz.prog 9 ptrE mb n (dmap es2))
    (hold : ∀ x ∈ es2, ∃ y ∈ es, x.fb = y.fb ∧ x.v = y.v ∧ x.da = y.da ∧ x.du = y.du) (hsep : es2.Pairwise fun a b => a.fb ≠ b.fb ∧ ∀ k, a.v.ownBlock = some k → b.v.ownBlock ≠ some k) (hsrt : Srt es2) (hnms : ∀ e ∈ es2, isNm e.nm = true) (hlen : es2.length ≤ 4096) (hfull : used es2 ≤ c.cap)
    (hp : W.heap[p]? = some (.cells #[.map (some mb), .int .i64 c.cap, .int .i64 (used es2), .bool c.off, .int .i64 c.left, .bool c.dn, .int .i64 c.age, .int .i64 c.wr] 53 (0, 0))) : DK W p mb es2 c :=
  { hp := hp
    hm := map_tight hm
    hf := fun x hx => by
      obtain ⟨y, hy, h1, h2, h3, h4⟩ := hold x hx
      have fy := (h.hf y hy).kept s fun k hk => by
        rintro (rfl | rfl)
        · exact h.p_foot hy hk
        · exact h.mb_foot hy hk
      exact ⟨by rw [h1, h2, h4]; exact fy.cells, by rw [h2, h3]; exact fy.row, by rw [h3, h4]; exact fy.du, by rw [h3]; exact fy.da⟩
    sep := hsep
    srt := hsrt
    nms := hnms
    many := hlen
    full := hfull
    cap := h.cap
    left := h.left
    age := h.age
    wr := h.wr }
theorem DK.del {w W : World} {p mb n : Nat} {es : List Ent} {c : Ctl} (h : DK w p mb es c) {e : Ent} (he : e ∈ es) (s : Stay (fun k => k = p ∨ k = mb) w W) (hm : W.ownsMap Tryz.prog 9 ptrE mb n (dmap (delE es e.nm)))
    (hp : W.heap[p]? = some (.cells #[.map (some mb), .int .i64 c.cap, .int .i64 (used (delE es e.nm)), .bool c.off, .int .i64 c.left, .bool c.dn, .int .i64 c.age, .int .i64 c.wr] 53 (0, 0))) : DK W p mb (delE es e.nm) c := by
  have hu := used_del h.srt he
  have hf := h.full
  refine h.remap s hm (fun x hx => ⟨x, (delE_mem.1 hx).1, rfl, rfl, rfl, rfl⟩) (h.sep.filter _) (h.srt.del _) (fun x hx => h.nms x (delE_mem.1 hx).1) (Nat.le_trans (List.length_filter_le _ _) h.many) (by omega) hp
/-- A key taken out of the map. -/
theorem drop_eq {w : World} {mb n : Nat} {es : List Ent} (ty : TypeId) (h : w.ownsMap Tryz.prog 9 ptrE mb n (dmap es)) (s : ByteArray) (hs : s.size ≤ 32) :
    ∃ w', (Builtin.delete_ #[51, 9] ty #[.map (some mb), .string s]).run Tryz.prog w = .ok (.tuple #[]) w' ∧ w'.ownsMap Tryz.prog 9 ptrE mb n (dmap (delE es s.data.toList)) ∧ w.grownBy w' (some mb) ∧ w'.heap.size = w.heap.size := by
  obtain ⟨w', hr, ho, ht⟩ := h.drop (e := 62) law9 Tryz.underlying51 (WideMaps.keyOf_string_mk Tryz.underlying9 (s := s) (by unfold maxLen; omega)) ty
  refine ⟨w', hr, ?_, ht.grown, ?_⟩
  · rw [dmap_del] at ho; exact ho
  · obtain ⟨_, _, _, _, _, rfl⟩ := ht; simp [ChangeMaps.setBlock]
theorem cell_grown {w w' : World} {mb : Nat} {a : Addr} {v : Value} (hg : w.grownBy w' (some mb)) (h : w.cell? a = some v) (hne : a.block ≠ mb) : w'.cell? a = some v := hg.cell h (fun e => hne (Option.some.inj e))
theorem cell_map {w : World} {mb n : Nat} {D : DataW Unit} (h : w.ownsMap Tryz.prog 9 ptrE mb n D) {a : Addr} {v : Value} (hc : w.cell? a = some v) (hsp : a.spot = none) : a.block ≠ mb := fun e => by
  obtain ⟨x, y, hb⟩ := map_block h
  simp [World.cell?, e, hb] at hc
end Go.Proofs.YtcamnalmcghjfaaGreatDoor.Dk
set_option linter.unusedVariables false
set_option linter.unusedSimpArgs false
set_option linter.unnecessarySimpa false
namespace Go.Proofs.YtcamnalmcghjfaaGreatDoor.Dk
open Go.RowKit Go.Maps Go.Proofs.DiskMath
/-- A disk behind a write: its blocks are old ones of its own, or new. -/
structure Step (w w' : World) (p mb : Nat) (es es' : List Ent) (c' : Ctl) : Prop where
  dk : DK w' p mb es' c'
  stay : Stay (Foot p mb es) w w'
  foot : ∀ k, Foot p mb es' k → Foot p mb es k ∨ w.heap.size ≤ k
theorem Step.refl {w : World} {p mb : Nat} {es : List Ent} {c : Ctl} (h : DK w p mb es c) : Step w w p mb es es c := ⟨h, .refl _ _, fun _ h => .inl h⟩
theorem Step.trans {a b d : World} {p mb : Nat} {e1 e2 e3 : List Ent} {c2 c3 : Ctl} (h : Step a b p mb e1 e2 c2) (k : Step b d p mb e2 e3 c3) : Step a d p mb e1 e3 c3 :=
  ⟨k.dk, h.stay.andThen k.stay (fun i hi hF => (h.foot i hF).resolve_right (by omega)), fun i hi => by
    rcases k.foot i hi with h1 | h1
    · exact h.foot i h1
    · exact .inr (Nat.le_trans h.stay.size h1)⟩
theorem Foot.p {p mb : Nat} {es : List Ent} : Foot p mb es p := .inl rfl
theorem Foot.e {p mb : Nat} {es : List Ent} {e : Ent} (he : e ∈ es) {k : Nat} (h : foot e k) : Foot p mb es k := .inr (.inr ⟨e, he, h⟩)
/-- The answer of an accepted write. -/
def okE (c : Ctl) : Int := if c.left = 1 then 45 else 0
theorem write_ok {p mb : Nat} {es : List Ent} {c : Ctl} (w : World) (h : DK w p mb es c) (lasts : Bool) (f : FuncId) (caps : Array Value) (hcf : ∀ W : World, (callFunc f caps).run Tryz.prog W = .ok (.enter f caps) W) (Q : World → Prop)
    (hdo : (lasts = true ∨ (c.left == 1) = false) → ∀ W, DK W p mb es (tick c) → Stay (· = p) w W → Calls Tryz.prog f caps W fun e w' => e = .returned (.tuple #[]) ∧ Q w')
    (hno : lasts = false → (c.left == 1) = true → ∀ W, DK W p mb es (tick c) → Stay (· = p) w W → Q W)
    (hQ : ∀ W, Q W → W.cell? ⟨p, 3, none⟩ = some (.bool (c.left == 1))) (x : Int) (hx : x = okE c) :
    Calls Tryz.prog 49 #[Pt p, .bool lasts, .func (.func f) #[] caps] w fun e w' => e = .returned (.int .i64 x) ∧ Q w' := by
  rw [hx]; exact write_any w h lasts f caps hcf Q hdo hno hQ
theorem find_some {es : List Ent} {c : Ctl} {s : ByteArray} (hc : fdE es c s.data.toList = 0) : ∃ e, findE es s.data.toList = some e ∧ e ∈ es ∧ e.nm = s.data.toList ∧ c.off = false ∧ isNm s.data.toList = true ∧ s.size ≤ 32 ∧ fdP es c s.data.toList = Pt e.fb := by
  have hck : ckE c s.data.toList = 0 := by
    unfold fdE at hc; split at hc
    · assumption
    · exact hc
  have hc' := hc
  unfold fdE at hc'
  rw [if_pos hck] at hc'
  cases hf : findE es s.data.toList with
  | none => rw [hf] at hc'; cases hc'
  | some e => exact ⟨e, rfl, (findE_mem hf).1, (findE_mem hf).2, (ck_size hck).1, (ck_size hck).2.1, (ck_size hck).2.2, by simp [fdP, hck, ptrOf, hf]⟩
theorem find_none {es : List Ent} {c : Ctl} {n : List UInt8} (hc : fdE es c n ≠ 0) : fdP es c n = .pointer none := by
  unfold fdE at hc
  unfold fdP
  split
  · rename_i hck
    rw [if_pos hck] at hc
    unfold ptrOf
    cases hf : findE es n with
    | none => rfl
    | some e => rw [hf] at hc; simp at hc
  · rfl
theorem cell_new (w : World) (v : Value) (t : TypeId) : (w.alloc (.cells #[v] t)).cell? ⟨w.heap.size, 0, none⟩ = some v := by
  have := heap_alloc_new w (.cells #[v] t)
  simp only [World.cell?, this]; rfl
theorem step_alloc {w w' : World} {p mb : Nat} {es : List Ent} {c : Ctl} (h : DK w p mb es c) (b : Below w.heap.size w w') : Step w w' p mb es es c := ⟨h.below b, .below b, fun _ h => .inl h⟩
theorem hmf : ∀ (fn : Fn) (first cap : Array Value) (w : World), (Instr.makeFunc fn first cap).run Tryz.prog w = .ok (.func fn first cap) w := fun _ _ _ _ => rfl
theorem foot_mod {w : World} {p mb : Nat} {es : List Ent} {e x : Ent} (he : e ∈ es) (hb : x.fb = e.fb) (hv : ∀ k, x.v.ownBlock = some k → e.v.ownBlock = some k ∨ w.heap.size ≤ k) : ∀ k, Foot p mb (modE es x) k → Foot p mb es k ∨ w.heap.size ≤ k := fun k hk => by
  rcases hk with rfl | rfl | ⟨y, hy, hk⟩
  · exact .inl Foot.p
  · exact .inl (.inr (.inl rfl))
  · rcases modE_mem hy with rfl | ⟨hy, _⟩
    · rcases hk with rfl | hk
      · exact .inl (Foot.e he (.inl hb))
      · exact (hv k hk).imp (fun h => Foot.e he (.inr h)) id
    · exact .inl (Foot.e hy hk)
theorem stay_foot {w w1 W w' : World} {p mb : Nat} {es : List Ent} {e : Ent} (he : e ∈ es) (s1 : Below w.heap.size w w1) (sW : Stay (· = p) w1 W) (st : Stay (fun k => k = p ∨ foot e k) W w') : Stay (Foot p mb es) w w' :=
  ((Stay.below s1).trans (sW.mono fun k _ hk => hk ▸ Foot.p)).trans (st.mono fun i _ hi => by
    rcases hi with rfl | hi
    · exact Foot.p
    · exact Foot.e he hi)
set_option maxHeartbeats 4000000 in
set_option maxRecDepth 100000 in
theorem size_any {p mb : Nat} {es : List Ent} {c : Ctl} (s : ByteArray) (w : World) (h : DK w p mb es c) (R : Ending → World → Prop)
    (h1 : fdE es c s.data.toList ≠ 0 → R (.returned (.tuple #[.int .i64 0, .int .i64 (fdE es c s.data.toList)])) w)
    (h2 : ∀ e, findE es s.data.toList = some e → fdE es c s.data.toList = 0 → R (.returned (.tuple #[.int .i64 e.da.length, .int .i64 0])) w) :
    Calls Tryz.prog 63 #[Pt p, .string s] w R := by
  have hk := find_any s w h
  by_cases hc : fdE es c s.data.toList = 0
  · obtain ⟨e, hf, he, -, -, -, -, hP⟩ := find_some hc
    have fe := h.hf e he
    obtain ⟨c0, c1⟩ := fe.cell
    obtain ⟨a, cap, hv, hcap⟩ := slice_form fe.row
    rw [hv] at c0
    rw [hP, hc] at hk
    have hR := h2 e hf hc
    clear h1 h2
    go_enter Tryz.func63, Tryz.ntmps63
    go_wp2_with fail
    refine hk.mono ?_
    rintro r w' ⟨rfl, rfl⟩
    go_wp2
    exact hR
  · have hR := h1 hc
    clear h1 h2
    generalize fdE es c s.data.toList = x at *
    generalize fdP es c s.data.toList = y at *
    go_enter Tryz.func63, Tryz.ntmps63
    go_wp2_with fail
    refine hk.mono ?_
    rintro r w' ⟨rfl, rfl⟩
    go_wp2
    exact hR
set_option maxHeartbeats 4000000 in
set_option maxRecDepth 100000 in
theorem sync_any {p mb : Nat} {es : List Ent} {c : Ctl} (s : ByteArray) (w : World) (h : DK w p mb es c) (R : Ending → World → Prop)
    (h1 : fdE es c s.data.toList ≠ 0 → ∀ w', Step w w' p mb es es c → R (.returned (.int .i64 (fdE es c s.data.toList))) w')
    (h2 : ∀ e, findE es s.data.toList = some e → fdE es c s.data.toList = 0 → ∀ w', Step w w' p mb es (if c.left = 1 then es else modE es { e with du := e.da.length }) (tick c) → R (.returned (.int .i64 (okE c))) w') :
    Calls Tryz.prog 44 #[Pt p, .string s] w R := by
  have hk := find_any s w h
  by_cases hc : fdE es c s.data.toList = 0
  · obtain ⟨e, hf, he, -, -, -, -, hP⟩ := find_some hc
    rw [hP, hc] at hk
    have hb1 : Below w.heap.size w (w.alloc (.cells #[Pt e.fb] 62)) := (Below.refl _ w).alloc (Nat.le_refl _) _
    have d1 := h.below hb1
    have hb := cell_new w (Pt e.fb) 62
    obtain ⟨x, hx⟩ : ∃ x, x = okE c := ⟨_, rfl⟩
    have hR0 := h2 e hf hc
    rw [← hx] at hR0
    have hR := Hid.mk hR0
    clear hR0
    have hWr := write_ok _ d1 false 68 #[Pt w.heap.size] (fun W => by kernel_rfl) (fun W => Step w W p mb es (if c.left = 1 then es else modE es { e with du := e.da.length }) (tick c))
      (fun hl W dW sW => by
        have hl1 : ¬ c.left = 1 := by simpa using hl
        have hbW : W.cell? ⟨w.heap.size, 0, none⟩ = some (Pt e.fb) := by
          rw [World.cell?_of_block (sW.block w.heap.size (World.block_lt_of_cell? _ _ hb) (fun e1 => by have := h.lt (k := p) (.inl rfl); omega))]; exact hb
        refine (sync1_any e w.heap.size W dW he hbW).mono ?_
        rintro r w' ⟨rfl, dk, st⟩
        rw [if_neg hl1]
        exact ⟨rfl, dk, stay_foot he hb1 sW st, foot_mod he rfl fun k hk => .inl hk⟩)
      (fun _ hl W dW sW => by
        have hl1 : c.left = 1 := by simpa using hl
        rw [if_pos hl1]
        exact ⟨dW, (Stay.below hb1).trans (sW.mono fun k _ hk => hk ▸ Foot.p), fun k hk => .inl hk⟩)
      (fun W hQ => hQ.dk.cell.2.2.2.1) x hx
    have hmf := hmf
    clear h1 h2 hx
    go_enter Tryz.func44, Tryz.ntmps44
    go_wp2_with fail
    refine hk.mono ?_
    rintro r w' ⟨rfl, rfl⟩
    go_wp2_with fail
    refine hWr.mono ?_
    rintro r w2 ⟨rfl, q2⟩
    go_wp2
    exact hR.out _ q2
  · rw [find_none hc] at hk
    have hR := h1 hc
    generalize fdE es c s.data.toList = x at *
    have hb1 : Below w.heap.size w (w.alloc (.cells #[.pointer none] 62)) := (Below.refl _ w).alloc (Nat.le_refl _) _
    have hR' := hR _ (step_alloc h hb1)
    clear h1 h2 hR
    go_enter Tryz.func44, Tryz.ntmps44
    go_wp2_with fail
    refine hk.mono ?_
    rintro r w' ⟨rfl, rfl⟩
    go_wp2
    exact hR'
set_option maxHeartbeats 4000000 in
set_option maxRecDepth 100000 in
theorem append_any {p mb : Nat} {es : List Ent} {c : Ctl} (s t : ByteArray) (w : World) (h : DK w p mb es c) (ht : t.size ≤ maxLen) (R : Ending → World → Prop)
    (h1 : fdE es c s.data.toList ≠ 0 → ∀ w', Step w w' p mb es es c → R (.returned (.int .i64 (fdE es c s.data.toList))) w')
    (h2 : ∀ e, findE es s.data.toList = some e → fdE es c s.data.toList = 0 → 268435456 < e.da.length + t.size → ∀ w', Step w w' p mb es es c → R (.returned (.int .i64 36)) w')
    (h3 : ∀ e, findE es s.data.toList = some e → fdE es c s.data.toList = 0 → e.da.length + t.size ≤ 268435456 → c.cap < used es + t.size → ∀ w', Step w w' p mb es es c → R (.returned (.int .i64 44)) w')
    (h4 : ∀ e, findE es s.data.toList = some e → fdE es c s.data.toList = 0 → e.da.length + t.size ≤ 268435456 → used es + t.size ≤ c.cap → ∀ w' v, Step w w' p mb es (modE es { e with da := e.da ++ t.data.toList, v := v }) (tick c) → R (.returned (.int .i64 (okE c))) w') :
    Calls Tryz.prog 32 #[Pt p, .string s, .string t] w R := by
  obtain ⟨W0, hW0⟩ : ∃ W0, W0 = (w.alloc (.cells #[Pt p] 23)).alloc (.cells #[.string t] 9) := ⟨_, rfl⟩
  have hb0 : Below w.heap.size w W0 := by rw [hW0]; exact ((Below.refl _ w).alloc (Nat.le_refl _) _).alloc (by simp) _
  have d0 := h.below hb0
  have hk := find_any s W0 d0
  have hcp := h.cap
  have hfl := h.full
  have hsz0 : W0.heap.size = w.heap.size + 2 := by rw [hW0]; simp
  have q1 : W0.cell? ⟨w.heap.size, 0, none⟩ = some (Pt p) := by rw [hW0]; exact cell_alloc (cell_new w (Pt p) 23) _
  have q2 : W0.cell? ⟨w.heap.size + 1, 0, none⟩ = some (.string t) := by
    have := cell_new (w.alloc (.cells #[Pt p] 23)) (.string t) 9
    rw [hW0]; simpa using this
  by_cases hc : fdE es c s.data.toList = 0
  · obtain ⟨e, hf, he, -, -, -, -, hP⟩ := find_some hc
    rw [hP, hc] at hk
    have fe := h.hf e he
    have hda := fe.da
    obtain ⟨W1, hW1⟩ : ∃ W1, W1 = W0.alloc (.cells #[Pt e.fb] 62) := ⟨_, rfl⟩
    have hb1 : Below w.heap.size w W1 := by rw [hW1]; exact hb0.alloc hb0.size _
    have d1 := h.below hb1
    have k1 : W1.cell? ⟨w.heap.size, 0, none⟩ = some (Pt p) := by rw [hW1]; exact cell_alloc q1 _
    have k2 : W1.cell? ⟨w.heap.size + 1, 0, none⟩ = some (.string t) := by rw [hW1]; exact cell_alloc q2 _
    have k3 : W1.cell? ⟨w.heap.size + 2, 0, none⟩ = some (Pt e.fb) := by have := cell_new W0 (Pt e.fb) 62; rw [hW1, ← hsz0]; exact this
    obtain ⟨p0, p1, p2, _⟩ := d1.cell
    obtain ⟨c0, c1⟩ := (d1.hf e he).cell
    obtain ⟨a, cap, hv, hcap⟩ := slice_form fe.row
    rw [hv] at c0
    have l1 := World.block_lt_of_cell? W1 _ k1
    have l2 := World.block_lt_of_cell? W1 _ k2
    have l3 := World.block_lt_of_cell? W1 _ k3
    by_cases hbig : e.da.length + t.size ≤ 268435456
    · have t1 : ¬ (268435456 - (e.da.length : Int) < (t.size : Int)) := by omega
      by_cases hful : used es + t.size ≤ c.cap
      · have t2 : ¬ ((c.cap : Int) - (used es : Int) < (t.size : Int)) := by omega
        obtain ⟨x, hx⟩ : ∃ x, x = okE c := ⟨_, rfl⟩
        have hR0 := h4 e hf hc hbig hful
        rw [← hx] at hR0
        have hR := Hid.mk hR0
        have hWr := write_ok W1.drew.drew (d1.below ⟨rfl, rfl, rfl, Nat.le_refl _, fun _ _ => rfl⟩) true 60 #[Pt (w.heap.size + 2), Pt (w.heap.size + 1), Pt w.heap.size] (fun W => by kernel_rfl) (fun W => ∃ v, Step w W p mb es (modE es { e with da := e.da ++ t.data.toList, v := v }) (tick c))
          (fun _ W dW sW0 => by
            have sW := undrew (undrew sW0)
            have lp := h.lt (k := p) (.inl rfl)
            have g : ∀ (k : Nat) (v : Value), w.heap.size ≤ k → k < W1.heap.size → W1.cell? ⟨k, 0, none⟩ = some v → W.cell? ⟨k, 0, none⟩ = some v := fun k v hk hk2 hv => by
              rw [World.cell?_of_block (sW.block k hk2 (fun e1 => by omega))]; exact hv
            have nf : ∀ k, k = w.heap.size ∨ k = w.heap.size + 2 ∨ k = w.heap.size + 1 → ¬ Foot p mb es k := fun k hk hF => by have := h.lt hF; omega
            refine (append1_any e t (w.heap.size + 2) (w.heap.size + 1) w.heap.size W dW he (g _ _ (by omega) l1 k1) (g _ _ (by omega) l3 k3) (g _ _ (by omega) l2 k2) nf hbig hful).mono ?_
            rintro r w' ⟨rfl, v, dk, st, hloc⟩
            have hs1 := hb1.size
            have hs2 := sW.size
            exact ⟨rfl, v, dk, stay_foot he hb1 (Stay.mono sW fun k _ hk => hk) st, foot_mod he rfl fun k hk => (hloc k hk).imp id fun h => by omega⟩)
          (fun hl => by cases hl)
          (fun W hQ => by obtain ⟨v, hQ⟩ := hQ; exact hQ.dk.cell.2.2.2.1) x hx
        have hmf := hmf
        clear h1 h2 h3 h4 hR0 hx hf q1 q2
        rw [hW0] at hk
        go_enter Tryz.func32, Tryz.ntmps32
        go_wp2_with fail
        refine hk.mono ?_
        rintro r w' ⟨rfl, rfl⟩
        go_wp2
        rw [← hW0, ← hW1]
        clear hW1 hW0
        go_region
        go_wp2
        go_region
        go_wp2_with fail
        refine hWr.mono ?_
        rintro r w2 ⟨rfl, v, q2⟩
        go_wp2
        exact hR.out _ _ q2
      · have t2 : (c.cap : Int) - (used es : Int) < (t.size : Int) := by omega
        have hR := Hid.mk (h3 e hf hc hbig (by omega) W1.drew.drew (step_alloc h (hb1.drew.drew)))
        clear h1 h2 h3 h4 hf q1 q2
        rw [hW0] at hk
        go_enter Tryz.func32, Tryz.ntmps32
        go_wp2_with fail
        refine hk.mono ?_
        rintro r w' ⟨rfl, rfl⟩
        go_wp2
        rw [← hW0, ← hW1]
        clear hW1 hW0
        go_region
        go_wp2
        go_region
        go_wp2
        exact hR.out
    · have t1 : 268435456 - (e.da.length : Int) < (t.size : Int) := by omega
      have hR := Hid.mk (h2 e hf hc (by omega) W1.drew (step_alloc h (hb1.drew)))
      clear h1 h2 h3 h4 hf q1 q2
      rw [hW0] at hk
      go_enter Tryz.func32, Tryz.ntmps32
      go_wp2_with fail
      refine hk.mono ?_
      rintro r w' ⟨rfl, rfl⟩
      go_wp2
      rw [← hW0, ← hW1]
      clear hW1 hW0
      go_region
      go_wp2
      exact hR.out
  · rw [find_none hc] at hk
    have hR0 := h1 hc
    have hb1 : Below w.heap.size w (W0.alloc (.cells #[.pointer none] 62)) := hb0.alloc hb0.size _
    have hR := Hid.mk (hR0 _ (step_alloc h hb1))
    rw [hW0] at hR hk
    generalize fdE es c s.data.toList = x at *
    clear h1 h2 h3 h4 hR0 q1 q2
    go_enter Tryz.func32, Tryz.ntmps32
    go_wp2_with fail
    refine hk.mono ?_
    rintro r w' ⟨rfl, rfl⟩
    go_wp2
    exact hR.out
end Go.Proofs.YtcamnalmcghjfaaGreatDoor.Dk
