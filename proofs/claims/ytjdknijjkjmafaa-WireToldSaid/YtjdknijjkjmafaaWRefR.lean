/-
  DERIVED. The document's own reader.
-/
import Derived.Test.YtjdknijjkjmafaaWRefA
set_option linter.unusedVariables false
set_option linter.unusedSimpArgs false
namespace Go.Proofs.Ytjdknijjkjmafaa
open Go.RowKit Go.Proofs.SealMath
/-- The document's reader: where it refused, its place says nothing. -/
def RRd (w : World) (r : Nat) (b : ByteArray) (s : RS) : Prop := ∃ p : Nat, HC w r #[.string b, .int .i64 p, .int .i64 s.2] 78 ∧ p ≤ b.size ∧ (s.2 = 0 → p = s.1)
theorem RRd.below {w w' : World} {r : Nat} {b : ByteArray} {s : RS} (h : RRd w r b s) (s' : Below w.heap.size w w') : RRd w' r b s := by
  obtain ⟨p, h1, h2⟩ := h; exact ⟨p, h1.below s', h2⟩
theorem RRd.stay {F : Nat → Prop} {w w' : World} {r : Nat} {b : ByteArray} {s : RS} (h : RRd w r b s) (s' : Stay F w w') (hF : ¬ F r) : RRd w' r b s := by
  obtain ⟨p, h1, h2⟩ := h; exact ⟨p, h1.stay s' hF, h2⟩
theorem RRd.lt {w : World} {r : Nat} {b : ByteArray} {s : RS} (h : RRd w r b s) : r < w.heap.size := by
  obtain ⟨p, h1, h2⟩ := h; exact h1.lt
set_option maxHeartbeats 1000000 in
theorem rrefuse_any (b : ByteArray) (p : Nat) (e x : Int) (w : World) (r : Nat) (h : HC w r #[.string b, .int .i64 p, .int .i64 e] 78) :
    Calls Try.prog 51 #[Pt r, .int .i64 x] w fun y w' => y = Un ∧ HC w' r #[.string b, .int .i64 p, .int .i64 (if e = 0 then x else e)] 78 ∧ Stay (· = r) w w' := by
  have c2 : w.cell? ⟨r, 2, none⟩ = some (.int .i64 e) := h.cell rfl
  have z2 := h.free 2
  by_cases he : e = 0
  · subst he
    have HF := Hid.mk (show HC (w.setCell ⟨r, 2, none⟩ (.int .i64 x)) r #[.string b, .int .i64 p, .int .i64 x] 78 ∧ Stay (· = r) w (w.setCell ⟨r, 2, none⟩ (.int .i64 x)) from ⟨HC.set h 2 _, (Stay.refl (· = r) w).setCell (p := ⟨r, 2, none⟩) (fun _ => rfl) _⟩)
    rw [if_pos rfl]
    clear h
    go_enter Try.func51, Try.ntmps51
    go_wp2
    first | go_end0 | refine bodyPost_ret (results_none rfl _ _ _) rfl ?_
    exact ⟨rfl, HF.out⟩
  · have HF := Hid.mk (And.intro h (Stay.refl (· = r) w))
    rw [if_neg he]
    clear h
    go_enter Try.func51, Try.ntmps51
    go_wp2
    first | go_end0 | refine bodyPost_ret (results_none rfl _ _ _) rfl ?_
    exact ⟨rfl, HF.out⟩
/-- A number of at most m: the document's. -/
def rdM (m : Nat) (x : Int) (b : ByteArray) (s : RS) : Nat × RS :=
  if s.2 ≠ 0 then (0, s) else if (vA b s.1).2.2 ≠ 0 then (0, (s.1, (vA b s.1).2.2)) else if m < (vA b s.1).1 then (0, (s.1, x)) else ((vA b s.1).1, ((vA b s.1).2.1, 0))
theorem rdM_any (b : ByteArray) (s : RS) : rdM 9223372036854775807 13 b s = rdN b s := rfl
theorem rdM_stop {m : Nat} {x : Int} {b : ByteArray} {p : Nat} {e : Int} (h : e ≠ 0) : rdM m x b (p, e) = (0, (p, e)) := by unfold rdM; rw [if_pos h]
theorem rdM_err {m : Nat} {x : Int} {b : ByteArray} {p v q : Nat} {e : Int} (h : vA b p = (v, q, e)) (he : e ≠ 0) : rdM m x b (p, 0) = (0, (p, e)) := by unfold rdM; rw [if_neg (by simp)]; simp only [h]; rw [if_pos he]
theorem rdM_big {m : Nat} {x : Int} {b : ByteArray} {p v q : Nat} (h : vA b p = (v, q, 0)) (hv : m < v) : rdM m x b (p, 0) = (0, (p, x)) := by unfold rdM; rw [if_neg (by simp)]; simp only [h]; rw [if_neg (by simp), if_pos hv]
theorem rdM_ok {m : Nat} {x : Int} {b : ByteArray} {p v q : Nat} (h : vA b p = (v, q, 0)) (hv : ¬ m < v) : rdM m x b (p, 0) = (v, (q, 0)) := by unfold rdM; rw [if_neg (by simp)]; simp only [h]; rw [if_neg (by simp), if_neg hv]
set_option maxHeartbeats 2000000 in
theorem rrnum_any (m : Nat) (x : Int) (hx0 : x ≠ 0) (hm : m ≤ 9223372036854775807) (b : ByteArray) (s : RS) (w : World) (r : Nat) (hb : b.size < 4611686018427387904) (h : RRd w r b s) :
    Calls Try.prog 29 #[Pt r, .int .i64 m, .int .i64 x] w fun e w' => e = .returned (.int .i64 (rdM m x b s).1) ∧ RRd w' r b (rdM m x b s).2 ∧ Stay (· = r) w w' := by
  obtain ⟨p', h, hpb, hp⟩ := h
  obtain ⟨p, e⟩ := s
  have c0 : w.cell? ⟨r, 0, none⟩ = some (.string b) := h.cell rfl
  have c1 : w.cell? ⟨r, 1, none⟩ = some (.int .i64 p') := h.cell rfl
  have c2 : w.cell? ⟨r, 2, none⟩ = some (.int .i64 e) := h.cell rfl
  have z1 := h.free 1
  by_cases he : e = 0
  · subst he
    have hpp : p' = p := hp rfl
    subst hpp
    obtain ⟨v, q, y, hV⟩ : ∃ v q y, vA b p' = (v, q, y) := ⟨_, _, _, rfl⟩
    have hvar := fun W => rvar_any b p' W hb
    simp only [hV] at hvar
    have HR := Hid.mk h
    have HP := Hid.mk hpb
    have hwm : IntKind.u64.wrap (m : Int) = (m : Int) := by rw [IntKind.wrap_u64]; omega
    have HWM := Hid.mk hwm
    clear hwm
    by_cases hy : y = 0
    · subst hy
      by_cases hv : m < v
      · have hv' : (m : Int) < (v : Int) := by omega
        have HF := Hid.mk (rdM_big (x := x) hV hv)
        have hwm := HWM.out
        clear h hV hv hp hpb hm HWM
        go_enter Try.func29, Try.ntmps29
        go_wp2
        go_quiet (first | (go_at_call 52; refine Calls.quiet_of_same (hvar _)))
        go_wp2_with (go_at_call 51; refine (rrefuse_any b p' 0 x _ r (HC.drewN HR.out _)).mono ?_; rintro e w1 ⟨rfl, r1, s1⟩; rw [if_pos rfl] at r1; have HX := Hid.mk (And.intro r1 s1); clear r1 s1)
        go_ret
        rw [HF.out]
        exact ⟨rfl, ⟨p', HX.out.1, HP.out, fun h => absurd h hx0⟩, ((Stay.refl _ w).drewN _).trans HX.out.2⟩
      · have hv' : ¬ (m : Int) < (v : Int) := by omega
        have hw : IntKind.i64.wrap (v : Int) = (v : Int) := i64_in _ (by omega) (by omega)
        have HF := Hid.mk (rdM_ok (x := x) hV hv)
        have HQ := Hid.mk (vA_only b p' v q hV).2.2.2
        have hwm := HWM.out
        clear h hV hv hp hpb hm HWM
        go_enter Try.func29, Try.ntmps29
        go_wp2
        go_quiet (first | (go_at_call 52; refine Calls.quiet_of_same (hvar _)))
        go_wp2
        go_ret
        rw [HF.out]
        exact ⟨rfl, ⟨q, HC.set (HC.drewN HR.out nq) 1 _, HQ.out, fun _ => rfl⟩, (((Stay.refl (· = r) w).drewN _).setCell (p := ⟨r, 1, none⟩) (fun _ => rfl) _)⟩
    · have HF := Hid.mk (rdM_err (m := m) (x := x) hV hy)
      clear h hV hp hpb hm HWM
      go_enter Try.func29, Try.ntmps29
      go_wp2
      go_quiet (first | (go_at_call 52; refine Calls.quiet_of_same (hvar _)))
      go_wp2_with (go_at_call 51; refine (rrefuse_any b p' 0 y _ r (HC.drewN HR.out _)).mono ?_; rintro e w1 ⟨rfl, r1, s1⟩; rw [if_pos rfl] at r1; have HX := Hid.mk (And.intro r1 s1); clear r1 s1)
      go_ret
      rw [HF.out]
      exact ⟨rfl, ⟨p', HX.out.1, HP.out, fun h => absurd h hy⟩, ((Stay.refl _ w).drewN _).trans HX.out.2⟩
  · have HF := Hid.mk (show RRd w r b (rdM m x b (p, e)).2 ∧ Stay (· = r) w w from by rw [rdM_stop he]; exact ⟨⟨p', h, hpb, hp⟩, Stay.refl _ w⟩)
    have HG := Hid.mk (rdM_stop (m := m) (x := x) (b := b) (p := p) he)
    clear h hp hpb hm
    go_enter Try.func29, Try.ntmps29
    go_wp2
    go_ret
    refine ⟨?_, HF.out⟩
    rw [HG.out]; rfl
set_option maxHeartbeats 1000000 in
theorem rany_any (b : ByteArray) (s : RS) (w : World) (r : Nat) (hb : b.size < 4611686018427387904) (h : RRd w r b s) :
    Calls Try.prog 31 #[Pt r] w fun e w' => e = .returned (.int .i64 (rdN b s).1) ∧ RRd w' r b (rdN b s).2 ∧ Stay (· = r) w w' := by
  have hn := rrnum_any 9223372036854775807 13 (by decide) (Nat.le_refl _) b s w r hb h
  rw [rdM_any] at hn
  clear h
  go_enter Try.func31, Try.ntmps31
  go_wp2_with (go_at_call 29; refine hn.mono ?_; clear hn; rintro e w1 ⟨rfl, r1, s1⟩; have HX := Hid.mk (And.intro r1 s1); clear r1 s1)
  go_ret
  exact ⟨rfl, HX.out⟩
end Go.Proofs.Ytjdknijjkjmafaa
