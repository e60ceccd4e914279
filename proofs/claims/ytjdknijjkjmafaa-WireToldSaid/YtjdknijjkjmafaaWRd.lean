/-
  DERIVED. A reader of a message in memory.
-/
import Derived.Test.YtjdknijjkjmafaaWMath
import Derived.Test.YtjdknijjkjmafaaWBox
import Derived.Test.YtjdknijjkjmafaaWFields
import Derived.Test.YtjdknijjkjmafaaSClone
import Derived.Deep.QuietTactic
import Derived.BigQuiet
set_option linter.unusedVariables false
set_option linter.unusedSimpArgs false
namespace Go.Proofs.Ytjdknijjkjmafaa
open Go.RowKit Go.Proofs.SealMath
/-- A reader: what it reads from, the place, the refusal. -/
abbrev RdAt (w : World) (r : Nat) (b : ByteArray) (s : RS) : Prop := HC w r #[.string b, .int .i64 s.1, .int .i64 s.2] 60
def rfS (s : RS) (x : Int) : RS := (s.1, if s.2 = 0 then x else s.2)
set_option maxHeartbeats 1000000 in
theorem refuse_any (b : ByteArray) (s : RS) (x : Int) (w : World) (r : Nat) (h : RdAt w r b s) :
    Calls Try.prog 47 #[Pt r, .int .i64 x] w fun e w' => e = Un ∧ RdAt w' r b (rfS s x) ∧ Stay (· = r) w w' := by
  obtain ⟨p, e⟩ := s
  have c2 : w.cell? ⟨r, 2, none⟩ = some (.int .i64 e) := HC.cell h rfl
  have z2 := HC.free h 2
  by_cases he : e = 0
  · subst he
    have HF := Hid.mk (show RdAt (w.setCell ⟨r, 2, none⟩ (.int .i64 x)) r b (rfS (p, 0) x) ∧ Stay (· = r) w (w.setCell ⟨r, 2, none⟩ (.int .i64 x)) from ⟨HC.set h 2 _, (Stay.refl (· = r) w).setCell (p := ⟨r, 2, none⟩) (fun _ => rfl) _⟩)
    clear h
    go_enter Try.func47, Try.ntmps47
    go_wp2
    first | go_end0 | refine bodyPost_ret (results_none rfl _ _ _) rfl ?_
    exact ⟨rfl, HF.out⟩
  · have HF := Hid.mk (show RdAt w r b (rfS (p, e) x) ∧ Stay (· = r) w w from ⟨by unfold rfS; rw [if_neg he]; exact h, Stay.refl _ w⟩)
    clear h
    go_enter Try.func47, Try.ntmps47
    go_wp2
    first | go_end0 | refine bodyPost_ret (results_none rfl _ _ _) rfl ?_
    exact ⟨rfl, HF.out⟩
theorem rdN_stop {b : ByteArray} {p : Nat} {e : Int} (h : e ≠ 0) : rdN b (p, e) = (0, (p, e)) := by unfold rdN; rw [if_pos h]
theorem rdN_err {b : ByteArray} {p v q : Nat} {e : Int} (h : vA b p = (v, q, e)) (he : e ≠ 0) : rdN b (p, 0) = (0, (p, e)) := by unfold rdN; rw [if_neg (by simp)]; simp only [h]; rw [if_pos he]
theorem rdN_big {b : ByteArray} {p v q : Nat} (h : vA b p = (v, q, 0)) (hv : 9223372036854775807 < v) : rdN b (p, 0) = (0, (p, 13)) := by unfold rdN; rw [if_neg (by simp)]; simp only [h]; rw [if_neg (by simp), if_pos hv]
theorem rdN_ok {b : ByteArray} {p v q : Nat} (h : vA b p = (v, q, 0)) (hv : ¬ 9223372036854775807 < v) : rdN b (p, 0) = (v, (q, 0)) := by unfold rdN; rw [if_neg (by simp)]; simp only [h]; rw [if_neg (by simp), if_neg hv]
set_option maxHeartbeats 2000000 in
theorem rnumber_any (b : ByteArray) (s : RS) (w : World) (r g o : Nat) (C : Array Value) (T : TypeId) (hb : b.size < 4611686018427387904) (h : RdAt w r b s) (hg : HC w g C T) (ho : C[o]? = some (.int .i64 0)) (hne : g ≠ r) :
    Calls Try.prog 48 #[Pt r, Pc g o] w fun e w' => e = Un ∧ RdAt w' r b (rdN b s).2 ∧ HC w' g (C.setIfInBounds o (.int .i64 (rdN b s).1)) T ∧ Stay (fun k => k = r ∨ k = g) w w' := by
  obtain ⟨p, e⟩ := s
  have c0 : w.cell? ⟨r, 0, none⟩ = some (.string b) := HC.cell h rfl
  have c1 : w.cell? ⟨r, 1, none⟩ = some (.int .i64 p) := HC.cell h rfl
  have c2 : w.cell? ⟨r, 2, none⟩ = some (.int .i64 e) := HC.cell h rfl
  have z1 := HC.free h 1
  have n0 : w.cell? ⟨g, o, none⟩ = some (.int .i64 0) := hg.cell ho
  have nz : w.frozen? ⟨g, o, none⟩ = false := hg.free o
  by_cases he : e = 0
  · subst he
    obtain ⟨v, q, x, hV⟩ : ∃ v q x, vA b p = (v, q, x) := ⟨_, _, _, rfl⟩
    have hvar := fun W => var_any b p W hb
    simp only [hV] at hvar
    by_cases hx : x = 0
    · subst hx
      by_cases hv : 9223372036854775807 < v
      · have hv' : (9223372036854775807 : Int) < (v : Int) := by omega
        have HF := Hid.mk (rdN_big hV hv)
        have HR := Hid.mk (And.intro h (And.intro hg ho))
        clear h hg ho hV hv
        go_enter Try.func48, Try.ntmps48
        go_wp2
        go_quiet (first | (go_at_call 63; refine Calls.quiet_of_same (hvar _)))
        go_wp2_with (go_at_call 47; refine (refuse_any b (p, 0) 13 _ r (HC.drewN HR.out.1 _)).mono ?_; rintro e w1 ⟨rfl, r1, s1⟩; have HX := Hid.mk (And.intro r1 s1); clear r1 s1)
        first | go_end0 | refine bodyPost_ret (results_none rfl _ _ _) rfl ?_
        refine ⟨rfl, ?_⟩
        rw [HF.out]; show _ ∧ HC w1 g (C.setIfInBounds o (.int .i64 0)) T ∧ _; rw [set_same HR.out.2.2]
        exact ⟨HX.out.1, HC.stay (HC.drewN HR.out.2.1 _) HX.out.2 hne, ((Stay.refl _ w).drewN _).trans (HX.out.2.mono fun k _ hk => .inl hk)⟩
      · have hv' : ¬ (9223372036854775807 : Int) < (v : Int) := by omega
        have hw : IntKind.i64.wrap (v : Int) = (v : Int) := i64_in _ (by omega) (by omega)
        have HF := Hid.mk (rdN_ok hV hv)
        have HR := Hid.mk (And.intro h (And.intro hg ho))
        have hne2 : ¬ r = g := fun e => hne e.symm
        clear h hg ho hV hv
        go_enter Try.func48, Try.ntmps48
        go_wp2
        go_quiet (first | (go_at_call 63; refine Calls.quiet_of_same (hvar _)))
        go_wp2
        first | go_end0 | refine bodyPost_ret (results_none rfl _ _ _) rfl ?_
        refine ⟨rfl, ?_⟩
        rw [HF.out]
        have k1 := HC.set (HC.far (HC.drewN HR.out.1 nq) (p := ⟨g, o, none⟩) hne2 (.int .i64 v)) 1 (.int .i64 q)
        have k2 := HC.far (HC.set (HC.drewN HR.out.2.1 nq) o (.int .i64 v)) (p := ⟨r, 1, none⟩) hne (.int .i64 q)
        exact ⟨k1, k2, ((((Stay.refl _ w).drewN _).setCell (p := ⟨g, o, none⟩) (fun _ => .inr rfl) _).setCell (p := ⟨r, 1, none⟩) (fun _ => .inl rfl) _)⟩
    · have HF := Hid.mk (rdN_err hV hx)
      have HR := Hid.mk (And.intro h (And.intro hg ho))
      clear h hg ho hV
      go_enter Try.func48, Try.ntmps48
      go_wp2
      go_quiet (first | (go_at_call 63; refine Calls.quiet_of_same (hvar _)))
      go_wp2_with (go_at_call 47; refine (refuse_any b (p, 0) x _ r (HC.drewN HR.out.1 _)).mono ?_; rintro e w1 ⟨rfl, r1, s1⟩; have HX := Hid.mk (And.intro r1 s1); clear r1 s1)
      first | go_end0 | refine bodyPost_ret (results_none rfl _ _ _) rfl ?_
      refine ⟨rfl, ?_⟩
      rw [HF.out]; show _ ∧ HC w1 g (C.setIfInBounds o (.int .i64 0)) T ∧ _; rw [set_same HR.out.2.2]
      exact ⟨HX.out.1, HC.stay (HC.drewN HR.out.2.1 _) HX.out.2 hne, ((Stay.refl _ w).drewN _).trans (HX.out.2.mono fun k _ hk => .inl hk)⟩
  · have HF := Hid.mk (show RdAt w r b (rdN b (p, e)).2 ∧ HC w g (C.setIfInBounds o (.int .i64 (rdN b (p, e)).1)) T ∧ Stay (fun k => k = r ∨ k = g) w w from by
      rw [rdN_stop he]; show RdAt w r b (p, e) ∧ HC w g (C.setIfInBounds o (.int .i64 0)) T ∧ _; rw [set_same ho]; exact ⟨h, hg, Stay.refl _ w⟩)
    clear h hg
    go_enter Try.func48, Try.ntmps48
    go_wp2
    first | go_end0 | refine bodyPost_ret (results_none rfl _ _ _) rfl ?_
    exact ⟨rfl, HF.out⟩
theorem rdN_le (b : ByteArray) (s : RS) (h : s.1 ≤ b.size) : (rdN b s).2.1 ≤ b.size ∧ (rdN b s).1 ≤ 9223372036854775807 := by
  obtain ⟨p, e⟩ := s
  by_cases he : e = 0
  · subst he
    rcases hR : rdN b (p, 0) with ⟨v, q, x⟩
    by_cases hx : x = 0
    · subst hx
      obtain ⟨h1, h2, h3, h4⟩ := numC.only b p v q h hR
      exact ⟨h4, h1⟩
    · unfold rdN at hR
      rw [if_neg (by simp)] at hR
      split at hR
      · cases hR; exact ⟨h, Nat.zero_le _⟩
      · split at hR
        · cases hR; exact ⟨h, Nat.zero_le _⟩
        · cases hR; exact absurd rfl hx
  · rw [rdN_stop he]; exact ⟨h, Nat.zero_le _⟩
set_option maxHeartbeats 2000000 in
theorem upto_any (b : ByteArray) (s : RS) (m : Nat) (x : Int) (w : World) (r : Nat) (hb : b.size < 4611686018427387904) (hp : s.1 ≤ b.size) (hm : m ≤ 65536) (h : RdAt w r b s) :
    Calls Try.prog 24 #[Pt r, .int .i64 m, .int .i64 x] w fun e w' => e = .returned (.int .i64 (rdU m x b s).1) ∧ RdAt w' r b (rdU m x b s).2 ∧ Stay (· = r) w w' := by
  have hn0 : HC (w.alloc (.cells #[.int .i64 0] 3)) w.heap.size #[.int .i64 0] 3 := HC.new w _ _
  have hne : w.heap.size ≠ r := fun e => by have := HC.lt h; omega
  have hnum := rnumber_any b s (w.alloc (.cells #[.int .i64 0] 3)) r w.heap.size 0 _ _ hb (h.alloc _) hn0 rfl hne
  have hle := (rdN_le b s hp).2
  obtain ⟨v, s1, hR⟩ : ∃ v s1, rdN b s = (v, s1) := ⟨_, _, rfl⟩
  rw [hR] at hnum hle
  have hs1 : v ≠ 0 → s1.2 = 0 := fun hv => by
    unfold rdN at hR
    split at hR
    · cases hR; exact absurd rfl hv
    · split at hR
      · cases hR; exact absurd rfl hv
      · split at hR
        · cases hR; exact absurd rfl hv
        · cases hR; rfl
  have HR := Hid.mk hR
  have HL := Hid.mk hs1
  have HW := Hid.mk (And.intro hnum (And.intro h hne))
  have hsz : r < w.heap.size := HC.lt h
  clear hnum hR hs1 h hn0 hne
  by_cases hv : m < v
  · have hv' : (m : Int) < (v : Int) := by omega
    have HV := Hid.mk hv
    clear hv
    go_enter Try.func24, Try.ntmps24
    go_wp2_with (first
      | (go_at_call 48; refine HW.out.1.mono ?_; rintro e w1 ⟨rfl, r1, n1, s1'⟩; have cn : w1.cell? ⟨w.heap.size, 0, none⟩ = some (.int .i64 v) := HC.cell n1 rfl; have HN := Hid.mk (And.intro r1 s1'); clear n1 s1' r1)
      | (go_at_call 47; refine (refuse_any b s1 x _ r HN.out.1).mono ?_; rintro e w2 ⟨rfl, r2, s2⟩; have HX := Hid.mk (And.intro r2 s2); clear r2 s2))
    go_ret
    have e0 := HL.out (by have := HV.out; omega)
    have hU : rdU m x b s = (0, (s1.1, x)) := by unfold rdU; rw [HR.out, if_pos HV.out]
    rw [hU]
    have r2 := HX.out.1
    unfold rfS at r2
    rw [if_pos e0] at r2
    refine ⟨rfl, r2, ?_⟩
    have sA : Stay (· = r) w (w.alloc (.cells #[.int .i64 0] 3)) := (Stay.refl _ w).alloc _
    exact (sA.andThen HN.out.2 (fun i hi hk => by rcases hk with h | h <;> omega)).trans HX.out.2
  · have hv' : ¬ (m : Int) < (v : Int) := by omega
    have HV := Hid.mk hv
    clear hv
    go_enter Try.func24, Try.ntmps24
    go_wp2_with (first
      | (go_at_call 48; refine HW.out.1.mono ?_; rintro e w1 ⟨rfl, r1, n1, s1'⟩; have cn : w1.cell? ⟨w.heap.size, 0, none⟩ = some (.int .i64 v) := HC.cell n1 rfl; have HN := Hid.mk (And.intro r1 s1'); clear n1 s1' r1))
    go_ret
    have hU : rdU m x b s = (v, s1) := by unfold rdU; rw [HR.out, if_neg HV.out]
    rw [hU]
    have sA : Stay (· = r) w (w.alloc (.cells #[.int .i64 0] 3)) := (Stay.refl _ w).alloc _
    exact ⟨rfl, HN.out.1, sA.andThen HN.out.2 (fun i hi hk => by rcases hk with h | h <;> omega)⟩
end Go.Proofs.Ytjdknijjkjmafaa
