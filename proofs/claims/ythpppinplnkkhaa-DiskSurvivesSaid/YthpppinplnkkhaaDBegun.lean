/-
  DERIVED. begun: what is asked first.
-/
import Derived.Test.YthpppinplnkkhaaDPlay
set_option linter.unusedVariables false
set_option linter.unusedSimpArgs false
set_option linter.unnecessarySimpa false
namespace Go.Proofs.Ythpppinplnkkhaa
open Go.RowKit Go.Maps Go.Proofs.DiskMath
/-- A disk of the call's own. -/
structure Ow (w W : World) (p mb : Nat) (es : List Ent) (c : Ctl) : Prop where
  dk : DK W p mb es c
  bel : Below w.heap.size w W
  own : ∀ k, Foot p mb es k → w.heap.size ≤ k
theorem Ow.step {w W W' : World} {p mb : Nat} {es es' : List Ent} {c c' : Ctl} (h : Ow w W p mb es c) (s : Step W W' p mb es es' c') : Ow w W' p mb es' c' :=
  ⟨s.dk, h.bel.trans (s.stay.toBelow (fun k hk hF => by have := h.own k hF; omega) h.bel.size), fun k hk => (s.foot k hk).elim (h.own k) (fun h1 => Nat.le_trans h.bel.size h1)⟩
theorem Ow.new {w w1 W : World} {c : Ctl} (hb : Below w.heap.size w w1) (d : DK W (w1.heap.size + 1) w1.heap.size [] c) (b : Below w1.heap.size w1 W) : Ow w W (w1.heap.size + 1) w1.heap.size [] c :=
  ⟨d, chain hb b (Nat.le_refl _), fun k hk => by
    have := hb.size
    rcases hk with rfl | rfl | ⟨e, he, _⟩
    · omega
    · omega
    · cases he⟩
theorem Ow.more {w W W' : World} {p mb : Nat} {es : List Ent} {c : Ctl} (h : Ow w W p mb es c) (b : Below W.heap.size W W') : Ow w W' p mb es c := h.step (step_alloc h.dk b)
theorem fd_one {e : Ent} {c : Ctl} (hn : e.nm = [97]) (ho : c.off = false) : fdE [e] c [97] = 0 ∧ findE [e] [97] = some e := by
  have hf : findE [e] [97] = some e := by simp [findE, hn]
  have hc : ckE c [97] = 0 := by unfold ckE; rw [ho]; rfl
  exact ⟨by unfold fdE; rw [if_pos hc, hf], hf⟩
theorem mod_one (e x : Ent) (hn : x.nm = e.nm) : modE [e] x = [x] := by simp [modE, hn]
theorem append_one {p mb : Nat} {e : Ent} {c : Ctl} (t : ByteArray) (w : World) (h : DK w p mb [e] c) (hn : e.nm = [97]) (ho : c.off = false) (hl : c.left = 0) (h1 : e.da.length + t.size ≤ c.cap) (h2 : c.cap ≤ 1000) :
    Calls Try.prog 15 #[Pt p, .string ⟨#[97]⟩, .string t] w (fun r w' => r = .returned (.int .i64 0) ∧ ∃ e', Step w w' p mb [e] [e'] (tick c) ∧ fl e' = ⟨[97], e.da ++ t.data.toList, e.du⟩) := by
  obtain ⟨hfd, hfe⟩ := fd_one hn ho
  have hu : used [e] = e.da.length := by simp [used]
  refine append_any ⟨#[97]⟩ t w h (by unfold maxLen; omega) _ (fun hk => absurd hfd hk) (fun e' hf hk hb => ?_) (fun e' hf hk hb hc => ?_) (fun e' hf hk hb hc w' v st => ?_)
  · have : e = e' := Option.some.inj (hfe.symm.trans hf)
    subst this; omega
  · have : e = e' := Option.some.inj (hfe.symm.trans hf)
    subst this; omega
  · have : e = e' := Option.some.inj (hfe.symm.trans hf)
    subst this
    rw [mod_one e { e with da := e.da ++ t.data.toList, v := v } rfl] at st
    exact ⟨by unfold okE; rw [hl]; rfl, _, st, by unfold fl; rw [hn]⟩
theorem sync_one {p mb : Nat} {e : Ent} {c : Ctl} (w : World) (h : DK w p mb [e] c) (hn : e.nm = [97]) (ho : c.off = false) (hl : c.left = 0) :
    Calls Try.prog 16 #[Pt p, .string ⟨#[97]⟩] w (fun r w' => r = .returned (.int .i64 0) ∧ ∃ e', Step w w' p mb [e] [e'] (tick c) ∧ fl e' = ⟨[97], e.da, e.da.length⟩) := by
  obtain ⟨hfd, hfe⟩ := fd_one hn ho
  refine sync_any ⟨#[97]⟩ w h _ (fun hk => absurd hfd hk) (fun e' hf hk w' st => ?_)
  have : e = e' := Option.some.inj (hfe.symm.trans hf)
  subst this
  rw [if_neg (by rw [hl]; decide)] at st
  rw [mod_one e { e with du := e.da.length } rfl] at st
  exact ⟨by unfold okE; rw [hl]; rfl, _, st, by unfold fl; rw [hn]⟩
theorem create_one {p mb : Nat} {c : Ctl} (w : World) (h : DK w p mb [] c) (ho : c.off = false) (hl : c.left = 0) :
    Calls Try.prog 13 #[Pt p, .string ⟨#[97]⟩] w (fun r w' => r = .returned (.int .i64 0) ∧ ∃ e', Step w w' p mb [] [e'] (tick c) ∧ fl e' = ⟨[97], [], 0⟩) := by
  have hc : ckE c [97] = 0 := by unfold ckE; rw [ho]; rfl
  refine create_any ⟨#[97]⟩ w h _ (fun hk => absurd hc hk) (fun e hk hf => by cases hf) (fun hk hf hm => by simp at hm) (fun hk hf hm hd w' fb st => ?_) (fun hk hf hm hd => ?_)
  · exact ⟨by unfold okE; rw [hl]; rfl, _, st, rfl⟩
  · unfold doneC at hd; rw [hl] at hd; simp at hd
theorem size_one {p mb : Nat} {e : Ent} {c : Ctl} (w : World) (h : DK w p mb [e] c) (hn : e.nm = [97]) (ho : c.off = false) (m : Nat) (hm : e.da.length = m) :
    Calls Try.prog 17 #[Pt p, .string ⟨#[97]⟩] w (fun r w' => r = .returned (.tuple #[.int .i64 m, .int .i64 0]) ∧ w' = w) := by
  obtain ⟨hfd, hfe⟩ := fd_one hn ho
  refine size_any ⟨#[97]⟩ w h _ (fun hk => absurd hfd hk) (fun e' hf hk => ?_)
  have : e = e' := Option.some.inj (hfe.symm.trans hf)
  subst this
  rw [hm]; exact ⟨rfl, rfl⟩
theorem read_one {p mb : Nat} {e : Ent} {c : Ctl} (w : World) (h : DK w p mb [e] c) (hn : e.nm = [97]) (ho : c.off = false) (S : ByteArray) (hd : e.da = [97, 98, 99, 101]) (hS : S = ⟨#[97, 98, 99, 101]⟩) :
    Calls Try.prog 18 #[Pt p, .string ⟨#[97]⟩, .int .i64 0, .int .i64 4] w (fun r w' => r = .returned (.tuple #[.string S, .int .i64 0]) ∧ w' = w) := by
  obtain ⟨hfd, hfe⟩ := fd_one hn ho
  refine read_any ⟨#[97]⟩ 0 4 w h (by omega) (by omega) _ (fun hk => absurd hfd hk) (fun e' hf hk hno => ?_) (fun e' hf hk _ _ _ => ?_)
  · have : e = e' := Option.some.inj (hfe.symm.trans hf)
    subst this
    rw [hd] at hno
    exact absurd ⟨by omega, by omega, by decide⟩ hno
  · have : e = e' := Option.some.inj (hfe.symm.trans hf)
    subst this
    rw [hd, hS]; exact ⟨rfl, rfl⟩
theorem crash_one {p mb : Nat} {e : Ent} {c : Ctl} (w : World) (h : DK w p mb [e] c) (hf : fl e = ⟨[97], [97, 98, 99, 100, 101], 3⟩) :
    Calls Try.prog 8 #[Pt p, .slice (some ⟨w.heap.size, 0, none⟩) 1 1] (w.alloc (.cells #[.string ⟨#[97]⟩, .int .i64 1, .int .u8 1] 45)) (fun r w' => r = .returned (.tuple #[]) ∧ ∃ e', Step w w' p mb [e] [e'] (crashC c) ∧ fl e' = ⟨[97], [97, 98, 99, 101], 4⟩) := by
  have hb1 : Below w.heap.size w (w.alloc (.cells #[.string ⟨#[97]⟩, .int .i64 1, .int .u8 1] 45)) := (Below.refl _ w).alloc (Nat.le_refl _) _
  have d1 := h.below hb1
  refine crash_any (some ⟨w.heap.size, 0, none⟩) [(⟨#[97]⟩, 1, 1)] 1 _ d1 (fun W hW j hj => ?_) (by decide) (fun j hj => ?_) _ (fun w' es' st hfl => ⟨rfl, ?_⟩)
  · have hj0 : j = 0 := by simp at hj; omega
    subst hj0
    have hg : W.heap[w.heap.size]? = some (.cells #[.string ⟨#[97]⟩, .int .i64 1, .int .u8 1] 45 (0, 0)) := (hW.block _ (by simp) (fun hF => by have := h.lt hF; omega)).trans (heap_alloc_new w _)
    refine ⟨w.heap.size, 0, rfl, ?_, ?_, ?_⟩ <;> simp [World.cell?, hg]
  · have hj0 : j = 0 := by simp at hj; omega
    subst hj0
    refine ⟨?_, by show (-9223372036854775808 : Int) ≤ 1; omega, by show (1 : Int) < 9223372036854775808; omega⟩
    show 1 ≤ maxLen
    unfold maxLen; omega
  · have e1 : ([e].map fl).map (cutF [(⟨#[97]⟩, 1, 1)]) = [⟨[97], [97, 98, 99, 101], 4⟩] := by
      simp only [List.map_cons, List.map_nil, hf]
      rfl
    rw [e1] at hfl
    cases es' with
    | nil => cases hfl
    | cons e' r =>
      cases r with
      | cons _ _ => simp at hfl
      | nil =>
        refine ⟨e', (step_alloc h hb1).trans st, ?_⟩
        simp only [List.map_cons, List.map_nil, List.cons.injEq] at hfl
        exact hfl.1
set_option maxHeartbeats 4000000 in
set_option maxRecDepth 100000 in
theorem begun_any (w : World) (R : Ending → World → Prop) (h1 : ∀ w', Below w.heap.size w w' → R (.returned (.bool true)) w') : Calls Try.prog 4 #[.int .i64 100] w R := by
  have HR := Hid.mk h1
  clear h1
  go_enter Try.func4, Try.ntmps4
  go_wp2_with fail
  refine new_any 100 w _ (fun hc => by omega) ?_
  intro _ _ w1 d1 b1
  have o1 := Ow.new (Below.refl _ w) d1 b1
  go_wp2_with fail
  refine (create_one w1 o1.dk rfl rfl).mono ?_
  rintro r w2 ⟨rfl, e2, s2, f2⟩
  have o2 := o1.step s2
  clear o1 d1 b1 s2
  have n2 : e2.nm = [97] := congrArg Fl.nm f2
  have l2 : e2.da = [] := congrArg Fl.da f2
  have HF2 := Hid.mk f2
  clear f2
  go_wp2_with fail
  refine (append_one ⟨#[97, 98, 99]⟩ w2 o2.dk n2 rfl rfl (by rw [l2]; decide) (by decide)).mono ?_
  rintro r w3 ⟨rfl, e3, s3, f3⟩
  have o3 := o2.step s3
  rw [l2] at f3
  have n3 : e3.nm = [97] := congrArg Fl.nm f3
  have l3 : e3.da = [97, 98, 99] := congrArg Fl.da f3
  clear o2 s3 n2 l2 f3
  go_wp2_with fail
  refine (sync_one w3 o3.dk n3 rfl rfl).mono ?_
  rintro r w4 ⟨rfl, e4, s4, f4⟩
  have o4 := o3.step s4
  rw [l3] at f4
  have n4 : e4.nm = [97] := congrArg Fl.nm f4
  have l4 : e4.da = [97, 98, 99] := congrArg Fl.da f4
  have u4 : e4.du = 3 := congrArg Fl.du f4
  clear o3 s4 n3 l3 f4
  go_wp2_with fail
  refine (append_one ⟨#[100, 101]⟩ w4 o4.dk n4 rfl rfl (by rw [l4]; decide) (by decide)).mono ?_
  rintro r w5 ⟨rfl, e5, s5, f5⟩
  have o5 := o4.step s5
  rw [l4, u4] at f5
  have F5 := Hid.mk f5
  clear o4 s5 n4 l4 u4 f5
  go_wp2_with fail
  refine (crash_one w5 o5.dk F5.out).mono ?_
  rintro r w6 ⟨rfl, e6, s6, f6⟩
  have o6 := o5.step s6
  have n6 : e6.nm = [97] := congrArg Fl.nm f6
  have l6 : e6.da = [97, 98, 99, 101] := congrArg Fl.da f6
  clear o5 s6 F5 f6
  go_wp2_with fail
  refine (size_one w6 o6.dk n6 rfl 4 (by rw [l6]; rfl)).mono ?_
  rintro r w7 ⟨rfl, rfl⟩
  go_wp2_with fail
  refine (read_one w7 o6.dk n6 rfl ⟨#[97, 98, 99, 101]⟩ l6 rfl).mono ?_
  rintro r w8 ⟨rfl, rfl⟩
  have hag := age_any w8 o6.dk
  rw [show (crashC (tick (tick (tick (tick (newC (100 : Int).toNat)))))).age = 1 by show wrap64 (0 + 1) = 1; unfold wrap64; omega] at hag
  clear l6 n6
  go_wp2_with fail
  refine hag.mono ?_
  rintro r w9 ⟨rfl, rfl⟩
  have hR := Hid.mk (HR.out w9 o6.bel)
  clear HR
  go_wp2
  exact hR.out
end Go.Proofs.Ythpppinplnkkhaa
