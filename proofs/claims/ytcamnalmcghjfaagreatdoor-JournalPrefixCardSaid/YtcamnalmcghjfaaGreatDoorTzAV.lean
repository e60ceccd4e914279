/-
  DERIVED. JSyn, JOp9, as one text.
-/
import Derived.Test.YtcamnalmcghjfaaGreatDoorTzAU
import Derived.Test.YtcamnalmcghjfaaGreatDoorTzAT
set_option linter.unusedVariables false
set_option linter.unusedSimpArgs false
namespace Go.Proofs.YtcamnalmcghjfaaGreatDoor
open Go.RowKit Go.Proofs.SealMath Go.Proofs.DiskMath
/-- What the disk's Sync makes of the one file. -/
theorem dsync {W : World} {p mb : Nat} {e : Ent} {c : Dk.Ctl} {D : List UInt8} (h : JS W p mb e c D) (ho : c.off = false) :
    Calls Tryz.prog 44 #[Pt p, .string ⟨#[106, 57]⟩] W fun r W' => r = .returned (.int .i64 (Dk.okE c)) ∧ Stay (Dk.Foot p mb [e]) W W' ∧ ∃ e', JS W' p mb e' (Dk.tick c) D ∧ e'.du = (if c.left = 1 then e.du else D.length) ∧ ∀ k, Dk.Foot p mb [e'] k → Dk.Foot p mb [e] k ∨ W.heap.size ≤ k := by
  rw [← nm9]
  refine Dk.sync_any (nmT 9) W h.dk _ (fun e0 => absurd (h.fd ho) e0) (fun x he _ W' hs => ?_)
  rw [h.find] at he; cases he
  have e1 : (if c.left = 1 then [e] else modE [e] { e with du := e.da.length }) = [if c.left = 1 then e else { e with du := e.da.length }] := by
    split
    · rfl
    · unfold modE; simp
  rw [e1] at hs
  refine ⟨rfl, hs.stay, _, ⟨hs.dk, ?_, ?_, h.cap⟩, ?_, hs.foot⟩
  · split
    · exact h.nm
    · exact h.nm
  · split
    · exact h.da
    · exact h.da
  · split
    · rfl
    · rw [← h.da]
set_option maxHeartbeats 8000000 in
set_option maxRecDepth 100000 in
theorem sync_do {w : World} {p mb j bj : Nat} {e : Ent} {c : Dk.Ctl} {D : List UInt8} {age sy la : Int} (h : JS w p mb e c D) (ho : c.off = false) (hj : w.heap[j]? = some (.cells (jV p age la sy) 72 (0, 0))) (hjf : ¬ Dk.Foot p mb [e] j) (hbj : w.heap[bj]? = some (.cells #[Pt j] 26 (0, 0))) (hbf : ¬ Dk.Foot p mb [e] bj) :
    Calls Tryz.prog 43 #[Pt bj] w fun r w' => ∃ v : Int, r = .returned (.int .i64 v) ∧ (v = Dk.okE c ∧ (∃ e', JS w' p mb e' (Dk.tick c) D ∧ e'.du = (if c.left = 1 then e.du else D.length) ∧ ∀ k, Dk.Foot p mb [e'] k → Dk.Foot p mb [e] k ∨ w.heap.size ≤ k) ∧ w'.heap[j]? = some (.cells (jV p age la (if v = 0 then la else sy)) 72 (0, 0)) ∧ Stay (fun k => Dk.Foot p mb [e] k ∨ k = j) w w') := by
  have HD := Hid.mk (And.intro h (And.intro hjf (And.intro hbf (And.intro hj (And.intro hbj ho)))))
  have y0 : w.cell? ⟨bj, 0, none⟩ = some (Pt j) := by rw [cell_of_row _ _ 0 _ _ (0, 0) hbj]; rfl
  have z0 : w.cell? ⟨j, 0, none⟩ = some (Pt p) := by rw [cell_of_row _ _ 0 _ _ (0, 0) hj]; rfl
  have z2 : w.cell? ⟨j, 2, none⟩ = some (.string ⟨#[106, 57]⟩) := by rw [cell_of_row _ _ 2 _ _ (0, 0) hj]; rfl
  have hsy := dsync (h.below (b_drew w)) ho
  have HK := Hid.mk (show ∀ W, Stay (Dk.Foot p mb [e]) w.drew W → W.cell? ⟨bj, 0, none⟩ = some (Pt j) ∧ W.cell? ⟨j, 0, none⟩ = some (Pt p) ∧ W.cell? ⟨j, 2, none⟩ = some (.string ⟨#[106, 57]⟩) ∧ W.heap[j]? = some (.cells (jV p age la sy) 72 (0, 0)) from fun W st => by
    have q1 : W.heap[j]? = _ := (st.block j (Array.getElem?_eq_some_iff.1 HD.out.2.2.2.1).1 HD.out.2.1).trans HD.out.2.2.2.1
    have q2 : W.heap[bj]? = _ := (st.block bj (Array.getElem?_eq_some_iff.1 HD.out.2.2.2.2.1).1 HD.out.2.2.1).trans HD.out.2.2.2.2.1
    exact ⟨by rw [cell_of_row _ _ 0 _ _ (0, 0) q2]; rfl, by rw [cell_of_row _ _ 0 _ _ (0, 0) q1]; rfl, by rw [cell_of_row _ _ 2 _ _ (0, 0) q1]; rfl, q1⟩)
  obtain ⟨X, hX⟩ : ∃ X, X = (if c.left = 1 then e.du else D.length) := ⟨_, rfl⟩
  obtain ⟨E, hE⟩ : ∃ E, E = Dk.okE c := ⟨_, rfl⟩
  have HE := Hid.mk (show E = 45 ∨ E = 0 by rw [hE]; unfold Dk.okE; split; exact .inl rfl; exact .inr rfl)
  simp only [← hX, ← hE] at hsy ⊢
  clear h ho hj hjf hbj hbf hX hE
  go_enter Tryz.func43, Tryz.ntmps43
  go_wp2_with fail
  refine wp_region_held_drew (S := (fun w' => w'.cell? ⟨bj, 0, none⟩ = some (Pt j) ∧ w'.cell? ⟨j, 0, none⟩ = some (Pt p) ∧ w'.cell? ⟨j, 2, none⟩ = some (.string ⟨#[106, 57]⟩))) (by kernel_rfl) ?_ (fun hHeld => ?_)
  · exact ⟨y0, z0, z2⟩
  refine wpAnyH_take (i := 0) (oi := { dst := some 3, op := Op.load 26 (Operand.tmp 0), type := 26, pos := "journal.go:132", after := #[], guard := none }) (v := ?vq0) rfl (by kernel_rfl) (by kernel_rfl) (by kernel_rfl) (fun _ _ _ h => h) (Or.inl ⟨by rfl, ?hq0⟩) (by assumption) ?rq0
  case hq0 => (intro w0 hSw; (try dsimp only at hSw); go_simp; first | done | (with_reducible rfl) | (rw [if_pos (by omega)]; try (with_reducible rfl)))
  simp only [Act.put, List.setIfInBounds_toArray, List.set_cons_zero, List.set_cons_succ]
  refine wpAnyH_take (i := 1) (oi := { dst := some 4, op := Op.nilCheck (Operand.tmp 3), type := 0, pos := "journal.go:132", after := #[{ on := 0, ground := Ground.data }], guard := none }) (v := ?vq1) rfl (by kernel_rfl) (by kernel_rfl) (by kernel_rfl) (fun _ _ _ h => h) (Or.inl ⟨by rfl, ?hq1⟩) (by assumption) ?rq1
  case hq1 => (intro w0 hSw; (try dsimp only at hSw); go_simp; first | done | (with_reducible rfl) | (rw [if_pos (by omega)]; try (with_reducible rfl)))
  simp only [Act.put, List.setIfInBounds_toArray, List.set_cons_zero, List.set_cons_succ]
  refine wpAnyH_take (i := 2) (oi := { dst := some 5, op := Op.fieldAddr 72 (Operand.tmp 4) 0, type := 0, pos := "journal.go:132", after := #[{ on := 1, ground := Ground.data }], guard := none }) (v := ?vq2) rfl (by kernel_rfl) (by kernel_rfl) (by kernel_rfl) (fun _ _ _ h => h) (Or.inl ⟨by rfl, ?hq2⟩) (by assumption) ?rq2
  case hq2 => (intro w0 hSw; (try dsimp only at hSw); go_simp; first | done | (with_reducible rfl) | (rw [if_pos (by omega)]; try (with_reducible rfl)))
  simp only [Act.put, List.setIfInBounds_toArray, List.set_cons_zero, List.set_cons_succ]
  refine wpAnyH_take (i := 3) (oi := { dst := some 6, op := Op.load 23 (Operand.tmp 5), type := 23, pos := "journal.go:132", after := #[{ on := 2, ground := Ground.data }], guard := none }) (v := ?vq3) rfl (by kernel_rfl) (by kernel_rfl) (by kernel_rfl) (fun _ _ _ h => h) (Or.inl ⟨by rfl, ?hq3⟩) (by assumption) ?rq3
  case hq3 => (intro w0 hSw; (try dsimp only at hSw); go_simp; first | done | (with_reducible rfl) | (rw [if_pos (by omega)]; try (with_reducible rfl)))
  simp only [Act.put, List.setIfInBounds_toArray, List.set_cons_zero, List.set_cons_succ]
  refine wpAnyH_take (i := 4) (oi := { dst := some 7, op := Op.load 26 (Operand.tmp 0), type := 26, pos := "journal.go:132", after := #[], guard := none }) (v := ?vq4) rfl (by kernel_rfl) (by kernel_rfl) (by kernel_rfl) (fun _ _ _ h => h) (Or.inl ⟨by rfl, ?hq4⟩) (by assumption) ?rq4
  case hq4 => (intro w0 hSw; (try dsimp only at hSw); go_simp; first | done | (with_reducible rfl) | (rw [if_pos (by omega)]; try (with_reducible rfl)))
  simp only [Act.put, List.setIfInBounds_toArray, List.set_cons_zero, List.set_cons_succ]
  refine wpAnyH_take (i := 5) (oi := { dst := some 8, op := Op.nilCheck (Operand.tmp 7), type := 0, pos := "journal.go:132", after := #[{ on := 4, ground := Ground.data }], guard := none }) (v := ?vq5) rfl (by kernel_rfl) (by kernel_rfl) (by kernel_rfl) (fun _ _ _ h => h) (Or.inl ⟨by rfl, ?hq5⟩) (by assumption) ?rq5
  case hq5 => (intro w0 hSw; (try dsimp only at hSw); go_simp; first | done | (with_reducible rfl) | (rw [if_pos (by omega)]; try (with_reducible rfl)))
  simp only [Act.put, List.setIfInBounds_toArray, List.set_cons_zero, List.set_cons_succ]
  refine wpAnyH_take (i := 6) (oi := { dst := some 9, op := Op.fieldAddr 72 (Operand.tmp 8) 2, type := 0, pos := "journal.go:132", after := #[{ on := 5, ground := Ground.data }], guard := none }) (v := ?vq6) rfl (by kernel_rfl) (by kernel_rfl) (by kernel_rfl) (fun _ _ _ h => h) (Or.inl ⟨by rfl, ?hq6⟩) (by assumption) ?rq6
  case hq6 => (intro w0 hSw; (try dsimp only at hSw); go_simp; first | done | (with_reducible rfl) | (rw [if_pos (by omega)]; try (with_reducible rfl)))
  simp only [Act.put, List.setIfInBounds_toArray, List.set_cons_zero, List.set_cons_succ]
  refine wpAnyH_take (i := 7) (oi := { dst := some 10, op := Op.load 9 (Operand.tmp 9), type := 9, pos := "journal.go:132", after := #[{ on := 6, ground := Ground.data }], guard := none }) (v := ?vq7) rfl (by kernel_rfl) (by kernel_rfl) (by kernel_rfl) (fun _ _ _ h => h) (Or.inl ⟨by rfl, ?hq7⟩) (by assumption) ?rq7
  case hq7 => (intro w0 hSw; (try dsimp only at hSw); go_simp; first | done | (with_reducible rfl) | (rw [if_pos (by omega)]; try (with_reducible rfl)))
  simp only [Act.put, List.setIfInBounds_toArray, List.set_cons_zero, List.set_cons_succ]
  refine wpAnyH_ready (rs := [8]) (by kernel_rfl) (by simp) ?_
  refine AllReadyH.cons rfl (fun K hK => ?_) AllReadyH.nil
  go_simp
  go_wp2_with (go_at_call 44; refine hsy.mono ?_; clear hsy; rintro r w5 ⟨rfl, st5, hnew⟩)
  have QQ := HK.out w5 st5
  refine hK.out _ _ ?_ (fun hHeld => ?_)
  · exact ⟨QQ.1, QQ.2.1, QQ.2.2.1⟩
  clear hK K
  refine wpAnyH_take (i := 9) (oi := { dst := some 2, op := Op.assign (Operand.tmp 11), type := 27, pos := "journal.go:132", after := #[{ on := 8, ground := Ground.data }, { on := 8, ground := Ground.chain }, { on := 0, ground := Ground.phase }, { on := 1, ground := Ground.phase }, { on := 2, ground := Ground.phase }, { on := 3, ground := Ground.phase }, { on := 4, ground := Ground.phase }, { on := 5, ground := Ground.phase }, { on := 6, ground := Ground.phase }, { on := 7, ground := Ground.phase }, { on := 8, ground := Ground.phase }], guard := none }) (v := ?vq9) rfl (by kernel_rfl) (by kernel_rfl) (by kernel_rfl) (fun _ _ _ h => h) (Or.inl ⟨by rfl, ?hq9⟩) (by assumption) ?rq9
  case hq9 => (intro w0 hSw; (try dsimp only at hSw); go_simp; first | done | (with_reducible rfl) | (rw [if_pos (by omega)]; try (with_reducible rfl)))
  simp only [Act.put, List.setIfInBounds_toArray, List.set_cons_zero, List.set_cons_succ]
  refine wpAnyH_done (by kernel_rfl) ?_ _
  have hJf : ∀ (e' : Ent), (∀ k, Dk.Foot p mb [e'] k → Dk.Foot p mb [e] k ∨ w.drew.heap.size ≤ k) → ¬ Dk.Foot p mb [e'] j := fun e' hf hj => by
    rcases hf j hj with h | h
    · exact HD.out.2.1 h
    · have h1 := (Array.getElem?_eq_some_iff.1 HD.out.2.2.2.1).1
      have h2 : w.heap.size ≤ j := h
      omega
  have hst : Stay (fun k => Dk.Foot p mb [e] k ∨ k = j) w w5 := (st5.undrew).mono (fun k _ h => .inl h)
  obtain ⟨q0, q1, q2, q3⟩ := QQ
  have q4 : w5.cell? ⟨j, 4, none⟩ = some (.int .i64 la) := by rw [cell_of_row _ _ 4 _ _ (0, 0) q3]; rfl
  have q5 : w5.cell? ⟨j, 5, none⟩ = some (.int .i64 sy) := by rw [cell_of_row _ _ 5 _ _ (0, 0) q3]; rfl
  have f5 : w5.frozen? ⟨j, 5, none⟩ = false := frozen_of_row _ _ _ _ _ q3
  obtain ⟨e', hJ', hdu, hft⟩ := hnew
  have HF := Hid.mk (And.intro hJ' (And.intro hdu (And.intro hft (And.intro (hJf e' hft) (And.intro q3 hst)))))
  clear hJ' hdu hft hJf hst q3 q1 q2 st5 HK y0 z0 z2 hHeld
  rcases HE.out with rfl | rfl
  · go_wp2
    go_ret
    exact ⟨45, rfl, rfl, ⟨e', HF.out.1, HF.out.2.1, HF.out.2.2.1⟩, HF.out.2.2.2.2.1, HF.out.2.2.2.2.2⟩
  · have st6 : Stay (fun k => k = j) w5 (w5.drew.setCell ⟨j, 5, none⟩ (.int .i64 la)) := Stay.setCell (F := fun k => k = j) (p := ⟨j, 5, none⟩) ((Stay.refl _ w5).drew) (fun _ => rfl) _
    have hj6 : (w5.drew.setCell ⟨j, 5, none⟩ (.int .i64 la)).heap[j]? = some (.cells (jV p age la la) 72 (0, 0)) := by
      have q3' : w5.drew.heap[j]? = _ := HF.out.2.2.2.2.1
      rw [heap_setCell_same w5.drew j 5 _ _ _ q3']; rfl
    have HG := Hid.mk (And.intro (HF.out.1.keep st6 (fun k hk e2 => HF.out.2.2.2.1 (by have e3 : k = j := e2; rw [← e3]; exact hk))) (And.intro hj6 (HF.out.2.2.2.2.2.trans (st6.mono (fun k _ h => .inr h)))))
    clear st6 hj6
    go_wp2_with fail
    go_region
    go_wp2
    go_ret
    exact ⟨0, rfl, rfl, ⟨e', HG.out.1, HF.out.2.1, HF.out.2.2.1⟩, HG.out.2.1, HG.out.2.2⟩
set_option maxHeartbeats 4000000 in
set_option maxRecDepth 100000 in
theorem sync_any {w : World} {p mb j : Nat} {e : Ent} {c : Dk.Ctl} {D : List UInt8} {sy la : Int} (h : JS w p mb e c D) (hj : w.heap[j]? = some (.cells (jV p c.age la sy) 72 (0, 0))) (hjf : ¬ Dk.Foot p mb [e] j) (ho : c.off = false) :
    Calls Tryz.prog 19 #[Pt j] w fun r w' => ∃ v : Int, r = .returned (.int .i64 v) ∧ (v = Dk.okE c ∧ (∃ e', JS w' p mb e' (Dk.tick c) D ∧ e'.du = (if c.left = 1 then e.du else D.length) ∧ ∀ k, Dk.Foot p mb [e'] k → Dk.Foot p mb [e] k ∨ w.heap.size ≤ k) ∧ w'.heap[j]? = some (.cells (jV p c.age la (if v = 0 then la else sy)) 72 (0, 0)) ∧ Stay (fun k => Dk.Foot p mb [e] k ∨ k = j) w w') := by
  obtain ⟨V, hV⟩ : ∃ V, V = w.alloc (.cells #[Pt j] 26) := ⟨_, rfl⟩
  have bV : Below w.heap.size w V := hV ▸ (Below.refl _ w).alloc (Nat.le_refl _) _
  have hbj : V.heap[w.heap.size]? = some (.cells #[Pt j] 26 (0, 0)) := hV ▸ heap_alloc_last w _
  have hjV := (bV.block j (Array.getElem?_eq_some_iff.1 hj).1).trans hj
  have hJ := h.below bV
  have nf : ∀ k, w.heap.size ≤ k → ¬ Dk.Foot p mb [e] k := fun k hk hf => by have := h.dk.lt hf; omega
  have hd := sync_do (hJ.below (b_drew V)) ho hjV hjf hbj (nf _ (Nat.le_refl _))
  have ha := att_any V hJ.dk hjV 43 #[Pt w.heap.size] (fun W => by rfl) _ (fun _ => hd) (fun h1 => absurd (ho.symm.trans h1) (by decide))
  have HB := Hid.mk (And.intro bV hV)
  obtain ⟨X, hX⟩ : ∃ X, X = (if c.left = 1 then e.du else D.length) := ⟨_, rfl⟩
  simp only [← hX] at ha ⊢
  clear hd hJ hjV hbj bV ho hj hjf h nf hX
  go_enter Tryz.func19, Tryz.ntmps19
  go_wp2_with fail
  rw [← HB.out.2]
  refine ha.mono ?_
  clear ha
  rintro r w5 ⟨v, rfl, h1, ⟨e', h2, h3, h4⟩, h5, h6⟩
  have hb := HB.out.1
  have HF := Hid.mk (And.intro h1 (And.intro (show ∃ e', JS w5 p mb e' (Dk.tick c) D ∧ e'.du = X ∧ ∀ k, Dk.Foot p mb [e'] k → Dk.Foot p mb [e] k ∨ w.heap.size ≤ k from ⟨e', h2, h3, fun k hk => (h4 k hk).imp id (fun h => Nat.le_trans hb.size h)⟩) (And.intro h5 ((Stay.below (F := fun k => Dk.Foot p mb [e] k ∨ k = j) hb).trans h6.undrew))))
  clear h1 h2 h3 h4 h5 h6 hb
  go_wp2
  go_ret
  exact ⟨v, rfl, HF.out⟩
set_option maxHeartbeats 4000000 in
/-- What Append and Sync answer where the power is off, or the journal is given up. -/
theorem last_any {w : World} {p j : Nat} {age la sy : Int} (hj : w.heap[j]? = some (.cells (jV p age la sy) 72 (0, 0))) :
    Calls Tryz.prog 14 #[Pt j] w fun r w' => r = .returned (.int .i64 la) ∧ w' = w := by
  have z4 : w.cell? ⟨j, 4, none⟩ = some (.int .i64 la) := by rw [cell_of_row _ _ 4 _ _ (0, 0) hj]; rfl
  go_enter Tryz.func14, Tryz.ntmps14
  go_wp2
  go_ret
  exact ⟨rfl, rfl⟩
set_option maxHeartbeats 4000000 in
theorem synced_any {w : World} {p j : Nat} {age la sy : Int} (hj : w.heap[j]? = some (.cells (jV p age la sy) 72 (0, 0))) :
    Calls Tryz.prog 15 #[Pt j] w fun r w' => r = .returned (.int .i64 sy) ∧ w' = w := by
  have z5 : w.cell? ⟨j, 5, none⟩ = some (.int .i64 sy) := by rw [cell_of_row _ _ 5 _ _ (0, 0) hj]; rfl
  go_enter Tryz.func15, Tryz.ntmps15
  go_wp2
  go_ret
  exact ⟨rfl, rfl⟩
end Go.Proofs.YtcamnalmcghjfaaGreatDoor
set_option linter.unusedVariables false
set_option linter.unusedSimpArgs false
namespace Go.Proofs.YtcamnalmcghjfaaGreatDoor
open Go.RowKit Go.Proofs.SealMath Go.Proofs.DiskMath
theorem Pow.same {w W : World} (h : Pow w) (e : W.heap[2]? = w.heap[2]?) : Pow W := by
  have hgn : Tryz.prog.globalNamed "internal/strconv.uint64pow10" = some 2 := by kernel_rfl
  unfold Pow Lib.TabIs World.var? at h ⊢
  rw [hgn] at h ⊢
  simp only [Option.bind_some] at h ⊢
  rw [e]
  exact h
theorem pow_pos {w : World} (h : Pow w) : 2 < w.heap.size := by
  have hgn : Tryz.prog.globalNamed "internal/strconv.uint64pow10" = some 2 := by kernel_rfl
  unfold Pow Lib.TabIs World.var? at h
  rw [hgn] at h
  simp only [Option.bind_some] at h
  rcases Nat.lt_or_ge 2 w.heap.size with h' | h'
  · exact h'
  · rw [Array.getElem?_eq_none h'] at h; cases h
/-- The tables stand, wherever the call began. -/
structure Tb (w : World) : Prop where
  tab : Tab w
  pow : Pow w
theorem Tb.lat {w W : World} (h : Tb w) (b : Below w.heap.size w W) : Tb W :=
  ⟨h.tab.same (b.block 0 h.tab.pos), h.pow.same (b.block 2 (pow_pos h.pow))⟩
theorem Tb.stay {w W : World} {F : Nat → Prop} (h : Tb w) (s : Stay F w W) (h0 : ¬ F 0) (h2 : ¬ F 2) : Tb W :=
  ⟨h.tab.same (s.block 0 h.tab.pos h0), h.pow.same (s.block 2 (pow_pos h.pow) h2)⟩
section
variable {W : World} {p mb : Nat} {e : Ent} {c : Dk.Ctl} {D : List UInt8}
/-- A journal over the disk. -/
theorem over_nine (n : Int) (h : Dk.DK W p mb [e] c) (ht : Tb W) : Calls Tryz.prog 23 #[Pt p, .int .i64 9, .int .i64 n, .int .i64 64] W fun r W' => ∃ j, r = .returned (Pt j) ∧ W.heap.size ≤ j ∧ W'.heap[j]? = some (.cells (jV p c.age n n) 72 (0, 0)) ∧ Below W.heap.size W W' := by
  have h1 := fun (V : World) (b : Below W.heap.size W V) => age_one V (h.below b)
  have h2 := fun (V : World) (b : Below W.heap.size W V) => name_any 9 V (ht.lat b).pow
  rw [nm9] at h2
  clear h ht
  go_enter Tryz.func23, Tryz.ntmps23
  go_wp2_with fail
  refine (h1 _ (Below.refl _ _)).mono ?_
  clear h1
  rintro r w1 ⟨rfl, rfl⟩
  go_wp2_with fail
  refine (h2 _ (Below.refl _ _)).mono ?_
  clear h2
  rintro r w2 ⟨rfl, b2⟩
  go_wp2
  go_ret
  exact ⟨_, rfl, b2.size, heap_alloc_last w2 _, b2.alloc b2.size _⟩
/-- Create on an empty disk. -/
theorem create_nine (n : Nat) (hn : n ≤ 1152921504606846976) (h : Dk.DK W p mb [] (Dk.newC 16777216)) (ht : Tb W) (hT : ∀ k, Dk.Foot p mb [] k → k ≠ 0 ∧ k ≠ 2) :
    Calls Tryz.prog 6 #[Pt p, .int .i64 9, .int .i64 n, .int .i64 64] W fun r W' => ∃ j e c, r = .returned (.tuple #[Pt j, .int .i64 0]) ∧ JS W' p mb e c [] ∧ e.du = 0 ∧ c.off = false ∧ c.left = 0 ∧ W.heap.size ≤ j ∧ ¬ Dk.Foot p mb [e] j ∧ W'.heap[j]? = some (.cells (jV p c.age n n) 72 (0, 0)) ∧ Stay (Dk.Foot p mb []) W W' ∧ (∀ k, Dk.Foot p mb [e] k → Dk.Foot p mb [] k ∨ W.heap.size ≤ k) := by
  have hck := jcheck_any 9 n 64 W
  rw [jc9 hn] at hck
  have h2 := name_any 9 W ht.pow
  rw [nm9] at h2
  have hc : Dk.ckE (Dk.newC 16777216) (nmT 9).data.toList = 0 := by
    unfold Dk.ckE Dk.newC
    rw [isNm9]; rfl
  have hcr := fun (V : World) (b : Below W.heap.size W V) => Dk.create_any (nmT 9) V (h.below b) (fun r W' => r = .returned (.int .i64 0) ∧ ∃ fb, Dk.Step V W' p mb [] [Dk.newE (nmT 9).data.toList fb] (Dk.tick (Dk.newC 16777216))) (fun e => absurd hc e) (fun e _ he => by cases he) (fun _ _ hl => by simp at hl) (fun _ _ _ _ W' fb hs => ⟨rfl, fb, hs⟩) (fun _ _ _ hd => by cases hd)
  obtain ⟨NM, hNM⟩ : ∃ NM, NM = (nmT 9).data.toList := ⟨_, rfl⟩
  rw [← hNM] at hcr
  rw [nm9] at hcr
  have HH := Hid.mk (And.intro h (And.intro ht hT))
  clear h ht hc hT hn
  go_enter Tryz.func6, Tryz.ntmps6
  go_wp2_with fail
  refine hck.mono ?_
  clear hck
  rintro r w1 ⟨rfl, rfl⟩
  go_wp2_with fail
  refine h2.mono ?_
  clear h2
  rintro r w2 ⟨rfl, b2⟩
  have hcr' := hcr w2 b2
  clear hcr
  go_wp2_with fail
  refine hcr'.mono ?_
  clear hcr'
  rintro r w3 ⟨rfl, fb, hs⟩
  have ht3 : Tb w3 := (HH.out.2.1.lat b2).stay hs.stay (fun hf => (HH.out.2.2 _ hf).1 rfl) (fun hf => (HH.out.2.2 _ hf).2 rfl)
  have hov := over_nine n hs.dk ht3
  have HS := Hid.mk (And.intro hs b2)
  clear hs ht3 b2
  go_wp2_with fail
  refine hov.mono ?_
  clear hov
  rintro r w4 ⟨j, rfl, hj, hjc, b4⟩
  have HF := Hid.mk (And.intro hj (And.intro hjc b4))
  clear hj hjc b4
  go_wp2
  go_ret2
  have hs := HS.out.1
  have h1 : w1.heap.size ≤ w2.heap.size := HS.out.2.size
  have h3 : w2.heap.size ≤ w3.heap.size := hs.stay.size
  refine ⟨j, Dk.newE NM fb, Dk.tick (Dk.newC 16777216), rfl, ⟨hs.dk.below HF.out.2.2, hNM, rfl, rfl⟩, rfl, rfl, rfl, by have := HF.out.1; omega, fun hf => ?_, HF.out.2.1, ?_, fun k hk => ?_⟩
  · have := hs.dk.lt hf
    have := HF.out.1
    omega
  · exact ((Stay.below (F := Dk.Foot p mb []) HS.out.2).trans hs.stay).trans (Stay.below HF.out.2.2)
  · rcases hs.foot k hk with h5 | h5
    · exact .inl h5
    · exact .inr (by omega)
theorem dcut (h : JS W p mb e c D) (ho : c.off = false) (hl : c.left = 0) (m : Nat) (hm : m ≤ D.length) :
    Calls Tryz.prog 64 #[Pt p, .string ⟨#[106, 57]⟩, .int .i64 m] W fun r W' => r = .returned (.int .i64 0) ∧ Stay (Dk.Foot p mb [e]) W W' ∧ ∃ e', JS W' p mb e' (Dk.tick c) (D.take m) ∧ e'.du = min e.du m ∧ ∀ k, Dk.Foot p mb [e'] k → Dk.Foot p mb [e] k ∨ W.heap.size ≤ k := by
  rw [← nm9]
  have hd := h.da
  have hdl : e.da.length = D.length := by rw [hd]
  have hdc : Dk.doneC c = true := Dk.done_yes (.inr (by rw [hl]; rfl))
  refine Dk.cut_any (nmT 9) m W h.dk _ (fun e0 => absurd (h.fd ho) e0) (fun x he _ hl2 => ?_) (fun x he _ _ _ _ W' v' hs => ?_) (fun x he _ _ _ hdn => ?_)
  · rw [h.find] at he; cases he
    omega
  · rw [h.find] at he; cases he
    have e1 : modE [e] { e with da := e.da.take (m : Int).toNat, du := min e.du (m : Int).toNat, v := v' } = [{ e with da := e.da.take (m : Int).toNat, du := min e.du (m : Int).toNat, v := v' }] := by
      unfold modE; simp
    rw [e1] at hs
    rw [show Dk.okE c = 0 by unfold Dk.okE; rw [hl]; rfl]
    exact ⟨rfl, hs.stay, _, ⟨hs.dk, h.nm, by rw [← hd]; rfl, h.cap⟩, rfl, hs.foot⟩
  · rw [hdc] at hdn; cases hdn
set_option maxHeartbeats 1000000 in
set_option maxRecDepth 100000 in
/-- What Open cuts away: nothing, or what stands behind the whole frames. -/
theorem jcut_nine (h : JS W p mb e c D) (ho : c.off = false) (hl : c.left = 0) (m : Nat) (hm : m ≤ D.length) :
    Calls Tryz.prog 35 #[Pt p, .string ⟨#[106, 57]⟩, .int .i64 m] W fun r W' => r = .returned (.int .i64 0) ∧ ((m = D.length ∧ W' = W) ∨ (m ≠ D.length ∧ Stay (Dk.Foot p mb [e]) W W' ∧ ∃ e', JS W' p mb e' (Dk.tick c) (D.take m) ∧ e'.du = min e.du m ∧ ∀ k, Dk.Foot p mb [e'] k → Dk.Foot p mb [e] k ∨ W.heap.size ≤ k)) := by
  have h1 := Dk.size_any (nmT 9) W h.dk (fun r W' => r = .returned (.tuple #[.int .i64 (D.length : Nat), .int .i64 0]) ∧ W' = W) (fun e0 => absurd (h.fd ho) e0) (fun x he _ => by
    rw [h.find] at he; cases he
    rw [h.da]
    exact ⟨rfl, rfl⟩)
  rw [nm9] at h1
  have h2 := dcut h ho hl m hm
  obtain ⟨Z, hZ⟩ : ∃ Z, Z = D.length := ⟨_, rfl⟩
  rw [← hZ] at h1 ⊢
  clear h ho hl hm hZ
  by_cases hz : m = Z
  · subst hz
    clear h2
    go_enter Tryz.func35, Tryz.ntmps35
    go_wp2_with fail
    refine h1.mono ?_
    clear h1
    rintro r w1 ⟨rfl, rfl⟩
    go_wp2
    go_ret
    first | exact ⟨rfl, .inl ⟨rfl, rfl⟩⟩ | exact ⟨rfl, .inl ⟨trivial, rfl⟩⟩
  · have hne : ((m : Int) == (Z : Int)) = false := by simp; omega
    have HZ := Hid.mk hz
    clear hz
    go_enter Tryz.func35, Tryz.ntmps35
    go_wp2_with fail
    refine h1.mono ?_
    clear h1
    rintro r w1 ⟨rfl, rfl⟩
    go_wp2_with fail
    refine h2.mono ?_
    clear h2
    rintro r w2 ⟨rfl, h3⟩
    have H3 := Hid.mk h3
    clear h3
    go_wp2
    go_ret
    exact ⟨rfl, .inr ⟨HZ.out, H3.out⟩⟩
theorem wrapNM (n m : Nat) (h : n + m ≤ 1152921504606846976) : wrap64 ((n : Int) + (m : Int)) = (n : Int) + (m : Int) := by unfold wrap64; omega
/-- Open of a file that begins with whole frames. -/
def OpN (p mb : Nat) (e : Ent) (c : Dk.Ctl) (D : List UInt8) (n : Nat) (M : List Up) (W : World) (r : Ending) (W' : World) : Prop :=
  ∃ j a cp, r = .returned (.tuple #[Pt j, .slice a M.length cp, .int .i64 0]) ∧ EU.Row W' (.slice a M.length cp) (M.map upQ) ∧ (∀ k, (Value.slice a M.length cp).ownBlock = some k → W.heap.size ≤ k) ∧ W.heap.size ≤ j ∧ W'.heap[j]? = some (.cells (jV p c.age (n + M.length : Nat) n) 72 (0, 0)) ∧
    (((flU M).length = D.length ∧ JS W' p mb e c D ∧ Below W.heap.size W W') ∨
     ((flU M).length ≠ D.length ∧ Stay (Dk.Foot p mb [e]) W W' ∧ ∃ e', JS W' p mb e' (Dk.tick c) (flU M) ∧ e'.du = min e.du (flU M).length ∧ (∀ k, Dk.Foot p mb [e'] k → Dk.Foot p mb [e] k ∨ W.heap.size ≤ k) ∧ ¬ Dk.Foot p mb [e'] j ∧ ∀ k, (Value.slice a M.length cp).ownBlock = some k → ¬ Dk.Foot p mb [e'] k))
set_option maxHeartbeats 4000000 in
set_option maxRecDepth 100000 in
theorem open_nine {n : Nat} {M : List Up} (h : JS W p mb e c D) (ho : c.off = false) (hl : c.left = 0) (ht : Tb W) (hT : ∀ k, Dk.Foot p mb [e] k → k ≠ 0 ∧ k ≠ 2) (hlk : lkL ⟨D.toArray⟩ n 64 = plU 0 M) (hle : lkE ⟨D.toArray⟩ n 64 = 0) (hmd : (flU M).length ≤ D.length) (htk : D.take (flU M).length = flU M) (hM : n + M.length ≤ 1152921504606846976) :
    Calls Tryz.prog 12 #[Pt p, .int .i64 9, .int .i64 n, .int .i64 64] W (OpN p mb e c D n M W) := by
  have h1 : Calls Tryz.prog 34 #[Pt p, .int .i64 9, .int .i64 n, .int .i64 64] W (LkO ⟨D.toArray⟩ n 64 W) := by
    have h0 := look_yes n 64 W h.dk h.find (h.fd ho) (by have := (h.dk.hf e (by simp)).da; omega) ht.tab ht.pow
    rw [h.da] at h0
    exact h0
  have h2 := fun (V : World) (b : Below W.heap.size W V) => name_any 9 V (ht.lat b).pow
  rw [nm9] at h2
  have h3 := fun (V : World) (b : Below W.heap.size W V) => jcut_nine (h.below b) ho hl (flU M).length hmd
  obtain ⟨m, em⟩ : ∃ m, m = M.length := ⟨_, rfl⟩
  obtain ⟨Z, eZ⟩ : ∃ Z, Z = (flU M).length := ⟨_, rfl⟩
  rw [← eZ] at h3
  have HM := Hid.mk (show n + m ≤ 1152921504606846976 by rw [em]; exact hM)
  have HH := Hid.mk (And.intro h (And.intro ht (And.intro hT (And.intro em (And.intro eZ htk)))))
  unfold LkO at h1
  rw [hlk, hle, plU_end, ← eZ] at h1
  clear h ho hl ht hT hlk hle hmd htk hM em eZ
  go_enter Tryz.func12, Tryz.ntmps12
  go_wp2_with fail
  refine h1.mono ?_
  clear h1
  rintro r w1 ⟨v, rfl, k1, k2, b1⟩
  have k1' := rowQ k1
  rw [plU_map] at k1'
  obtain ⟨a, cp, ev, -⟩ := k1'.form
  rw [List.length_map, ← HH.out.2.2.2.1] at ev
  subst ev
  clear k1
  go_wp2_with fail
  refine (h2 w1 b1).mono ?_
  clear h2
  rintro r w2 ⟨rfl, b2⟩
  have b12 := chain b1 b2 (Nat.le_refl _)
  have hr2 := Rw.El.Row.below k1' b2
  have h3' := h3 w2 b12
  clear h3 k1'
  go_wp2_with fail
  refine h3'.mono ?_
  clear h3'
  rintro r w3 ⟨rfl, hcase⟩
  have hJ2 := HH.out.1.below b12
  have s12 : W.heap.size ≤ w2.heap.size := b12.size
  rcases hcase with ⟨hA0, rfl⟩ | ⟨hA0, s3, e3, hJ3, hdu0, hft0⟩
  · have hA : (flU M).length = D.length := by rw [← HH.out.2.2.2.2.1]; exact hA0
    have hDM : D = flU M := by
      have := HH.out.2.2.2.2.2
      rw [hA, List.take_length] at this
      exact this
    obtain ⟨e3, he3⟩ : ∃ e3, e3 = e := ⟨_, rfl⟩
    obtain ⟨c3, hc3⟩ : ∃ c3, c3 = c := ⟨_, rfl⟩
    subst he3 hc3
    have hJ3 : JS w3 p mb e3 c3 (flU M) := by rw [← hDM]; exact hJ2
    have ht3 := HH.out.2.1.lat b12
    have hr3 := hr2
    have s13 := s12
    have b13 := b12
    clear hr2 hA0 b1 b2 hJ2 s12
    have hov := over_nine n hJ3.dk ht3
    go_wp2_with fail
    refine hov.mono ?_
    clear hov
    rintro r w4 ⟨j, rfl, hj, hb, b4⟩
    have z4 : w4.cell? ⟨j, 4, none⟩ = some (.int .i64 n) := by rw [cell_of_row _ _ 4 _ _ (0, 0) hb]; rfl
    have f4 : w4.frozen? ⟨j, 4, none⟩ = false := frozen_of_row _ _ _ _ _ hb
    have st : Stay (fun k => k = j) w4 (w4.setCell ⟨j, 4, none⟩ (.int .i64 ((n : Int) + (m : Int)))) := Stay.setCell (F := fun k => k = j) (p := ⟨j, 4, none⟩) (Stay.refl _ w4) (fun _ => rfl) _
    have hj5 : (w4.setCell ⟨j, 4, none⟩ (.int .i64 ((n : Int) + (m : Int)))).heap[j]? = some (.cells (jV p c3.age ((n + m : Nat) : Int) n) 72 (0, 0)) := by
      rw [heap_setCell_same w4 j 4 _ _ _ hb, show ((n + m : Nat) : Int) = (n : Int) + (m : Int) from by omega]; rfl
    have hJ5 : JS (w4.setCell ⟨j, 4, none⟩ (.int .i64 ((n : Int) + (m : Int)))) p mb e3 c3 (flU M) := (hJ3.below b4).keep st (fun k hk e4 => by have e5 : k = j := e4; have h6 := hJ3.dk.lt hk; omega)
    have hjf : ¬ Dk.Foot p mb [e3] j := fun hf => by have h6 := hJ3.dk.lt hf; omega
    have hj1 : W.heap.size ≤ j := Nat.le_trans s13 hj
    have hrw : EU.Row (w4.setCell ⟨j, 4, none⟩ (.int .i64 ((n : Int) + (m : Int)))) (.slice a m cp) (M.map upQ) := row_kept (row_kept hr3 (Stay.below (F := fun _ => False) b4) (fun _ _ h => h)) st (fun k hk e4 => by have e5 : k = j := e4; have h6 := row_lt hr3 hk; omega)
    have HFin := Hid.mk (show OpN p mb e3 c3 D n M W (.returned (.tuple #[Pt j, .slice a m cp, .int .i64 0])) (w4.setCell ⟨j, 4, none⟩ (.int .i64 ((n : Int) + (m : Int)))) from by
      unfold OpN
      rw [← HH.out.2.2.2.1]
      exact ⟨j, a, cp, rfl, hrw, k2, hj1, hj5, .inl ⟨hA, by rw [hDM]; exact hJ5, (b13.trans (b4.mono s13)).trans (st.toBelow (fun k hk e4 => by have e5 : k = j := e4; omega) (Nat.le_trans s13 b4.size))⟩⟩)
    clear hJ5 hrw hj5 hjf st hb b4 hJ3 ht3 hr3
    have hw : wrap64 ((n : Int) + (m : Int)) = (n : Int) + (m : Int) := wrapNM n m (by have := HM.out; omega)
    go_wp2
    try rw [hw]
    go_ret3
    exact HFin.out
  · have hA : (flU M).length ≠ D.length := by rw [← HH.out.2.2.2.2.1]; exact hA0
    rw [HH.out.2.2.2.2.1, HH.out.2.2.2.2.2] at hJ3
    obtain ⟨c3, hc3⟩ : ∃ c3, c3 = Dk.tick c := ⟨_, rfl⟩
    have hage : c3.age = c.age := by rw [hc3]; rfl
    have ht3 : Tb w3 := (HH.out.2.1.lat b12).stay s3 (fun hf => (HH.out.2.2.1 _ hf).1 rfl) (fun hf => (HH.out.2.2.1 _ hf).2 rfl)
    have hr3 : EU.Row w3 (.slice a m cp) (M.map upQ) := row_kept hr2 s3 (fun k hk hf => by have h6 := HH.out.1.dk.lt hf; have h7 := k2 k hk; omega)
    have s13 : W.heap.size ≤ w3.heap.size := Nat.le_trans s12 s3.size
    have s23 : Stay (Dk.Foot p mb [e]) W w3 := (Stay.below b12).trans s3
    have hdu : e3.du = min e.du (flU M).length := by rw [← HH.out.2.2.2.2.1]; exact hdu0
    have hft : ∀ k, Dk.Foot p mb [e3] k → Dk.Foot p mb [e] k ∨ W.heap.size ≤ k := fun k hk => (hft0 k hk).imp id (fun h => Nat.le_trans s12 h)
    have hrf : ∀ k, (Value.slice a m cp).ownBlock = some k → ¬ Dk.Foot p mb [e3] k := fun k hk hf => by
      have h6 := row_lt hr2 hk
      have h7 := k2 k hk
      rcases hft0 k hf with h8 | h8
      · have := HH.out.1.dk.lt h8; omega
      · omega
    rw [← hc3] at hJ3
    clear hr2 hA0 b1 b2 hJ2 s12 hdu0 hft0
    have hov := over_nine n hJ3.dk ht3
    go_wp2_with fail
    refine hov.mono ?_
    clear hov
    rintro r w4 ⟨j, rfl, hj, hb, b4⟩
    have z4 : w4.cell? ⟨j, 4, none⟩ = some (.int .i64 n) := by rw [cell_of_row _ _ 4 _ _ (0, 0) hb]; rfl
    have f4 : w4.frozen? ⟨j, 4, none⟩ = false := frozen_of_row _ _ _ _ _ hb
    have st : Stay (fun k => k = j) w4 (w4.setCell ⟨j, 4, none⟩ (.int .i64 ((n : Int) + (m : Int)))) := Stay.setCell (F := fun k => k = j) (p := ⟨j, 4, none⟩) (Stay.refl _ w4) (fun _ => rfl) _
    have hj5 : (w4.setCell ⟨j, 4, none⟩ (.int .i64 ((n : Int) + (m : Int)))).heap[j]? = some (.cells (jV p c.age ((n + m : Nat) : Int) n) 72 (0, 0)) := by
      rw [heap_setCell_same w4 j 4 _ _ _ hb, ← hage, show ((n + m : Nat) : Int) = (n : Int) + (m : Int) from by omega]; rfl
    have hJ5 : JS (w4.setCell ⟨j, 4, none⟩ (.int .i64 ((n : Int) + (m : Int)))) p mb e3 c3 (flU M) := (hJ3.below b4).keep st (fun k hk e4 => by have e5 : k = j := e4; have h6 := hJ3.dk.lt hk; omega)
    have hjf : ¬ Dk.Foot p mb [e3] j := fun hf => by have h6 := hJ3.dk.lt hf; omega
    have hj1 : W.heap.size ≤ j := Nat.le_trans s13 hj
    have hrw : EU.Row (w4.setCell ⟨j, 4, none⟩ (.int .i64 ((n : Int) + (m : Int)))) (.slice a m cp) (M.map upQ) := row_kept (row_kept hr3 (Stay.below (F := fun _ => False) b4) (fun _ _ h => h)) st (fun k hk e4 => by have e5 : k = j := e4; have h6 := row_lt hr3 hk; omega)
    have HFin := Hid.mk (show OpN p mb e c D n M W (.returned (.tuple #[Pt j, .slice a m cp, .int .i64 0])) (w4.setCell ⟨j, 4, none⟩ (.int .i64 ((n : Int) + (m : Int)))) from by
      unfold OpN
      rw [← HH.out.2.2.2.1]
      exact ⟨j, a, cp, rfl, hrw, k2, hj1, hj5, .inr ⟨hA, (s23.trans (Stay.below b4)).andThen st (fun k hk e4 => by have e5 : k = j := e4; omega), e3, hc3 ▸ hJ5, hdu, hft, hjf, hrf⟩⟩)
    clear hJ5 hrw hj5 hjf st hb b4 hJ3 ht3 hr3
    have hw : wrap64 ((n : Int) + (m : Int)) = (n : Int) + (m : Int) := wrapNM n m (by have := HM.out; omega)
    go_wp2
    try rw [hw]
    go_ret3
    exact HFin.out
end
end Go.Proofs.YtcamnalmcghjfaaGreatDoor
