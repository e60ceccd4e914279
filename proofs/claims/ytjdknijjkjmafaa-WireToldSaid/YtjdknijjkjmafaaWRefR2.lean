/-
  DERIVED. The document's own reader: a text, the beginning, the end.
-/
import Derived.Test.YtjdknijjkjmafaaWRefR
set_option linter.unusedVariables false
set_option linter.unusedSimpArgs false
namespace Go.Proofs.Ytjdknijjkjmafaa
open Go.RowKit Go.Proofs.SealMath
theorem rdN_zero {b : ByteArray} {s : RS} (h : (rdN b s).2.2 ≠ 0) : (rdN b s).1 = 0 := by
  unfold rdN at h ⊢
  split
  · rfl
  · rename_i h1
    rw [if_neg h1] at h
    split
    · rfl
    · rename_i h2
      rw [if_neg h2] at h
      split
      · rfl
      · rename_i h3
        rw [if_neg h3] at h
        exact absurd rfl h
theorem rdT_stop {b : ByteArray} {s : RS} (h : (rdN b s).2.2 ≠ 0) : rdT b s = ([], (rdN b s).2) := by
  have h0 := rdN_zero h
  unfold rdT rdU
  rw [if_neg (by omega)]
  unfold rdB
  rw [if_pos h]
theorem rdT_big {b : ByteArray} {s : RS} (h : (rdN b s).2.2 = 0) (hb : 65536 < (rdN b s).1) : rdT b s = ([], ((rdN b s).2.1, 36)) := by
  unfold rdT rdU
  rw [if_pos hb]
  unfold rdB
  rw [if_pos (by simp)]
theorem rdT_short {b : ByteArray} {s : RS} (h : (rdN b s).2.2 = 0) (hb : ¬ 65536 < (rdN b s).1) (hs : b.size < (rdN b s).2.1 + (rdN b s).1) : rdT b s = ([], ((rdN b s).2.1, 31)) := by
  unfold rdT rdU
  rw [if_neg hb]
  unfold rdB
  rw [if_neg (fun g => g h), if_pos hs]
theorem rdT_ok {b : ByteArray} {s : RS} (h : (rdN b s).2.2 = 0) (hb : ¬ 65536 < (rdN b s).1) (hs : ¬ b.size < (rdN b s).2.1 + (rdN b s).1) : rdT b s = (sub b (rdN b s).2.1 (rdN b s).1, ((rdN b s).2.1 + (rdN b s).1, 0)) := by
  unfold rdT rdU
  rw [if_neg hb]
  unfold rdB
  rw [if_neg (fun g => g h), if_neg hs]
set_option maxHeartbeats 2000000 in
theorem rrtext_any (b : ByteArray) (s : RS) (w : World) (r : Nat) (hb : b.size < 4611686018427387904) (h : RRd w r b s) :
    Calls Try.prog 30 #[Pt r] w fun e w' => e = .returned (Tx (rdT b s).1) ∧ RRd w' r b (rdT b s).2 ∧ Stay (· = r) w w' := by
  have ha := rany_any b s w r hb h
  have hT1 := @rdT_stop b s
  have hT2 := @rdT_big b s
  have hT3 := @rdT_short b s
  have hT4 := @rdT_ok b s
  obtain ⟨k, s1, hR⟩ : ∃ k s1, rdN b s = (k, s1) := ⟨_, _, rfl⟩
  obtain ⟨p, e⟩ := s1
  rw [hR] at ha hT1 hT2 hT3 hT4
  simp only at hT1 hT2 hT3 hT4
  obtain ⟨RT, hRT⟩ : ∃ RT, RT = rdT b s := ⟨_, rfl⟩
  rw [← hRT] at hT1 hT2 hT3 hT4 ⊢
  clear hRT hR h
  by_cases he : e = 0
  · subst he
    by_cases hk : 65536 < k
    · have hk' : (65536 : Int) < (k : Int) := by omega
      have HT := Hid.mk (hT2 rfl hk)
      clear hT1 hT2 hT3 hT4 hk
      go_enter Try.func30, Try.ntmps30
      go_wp2_with (first
        | (go_at_call 31; refine ha.mono ?_; clear ha; rintro y w1 ⟨rfl, ⟨p1, r1, l1, e1⟩, s1⟩; have c2 : w1.cell? ⟨r, 2, none⟩ = some (.int .i64 0) := r1.cell rfl; have HX := Hid.mk (And.intro r1 (And.intro l1 s1)); clear r1 l1 e1 s1)
        | (go_at_call 51; refine (rrefuse_any b p1 0 36 _ r HX.out.1).mono ?_; rintro y w2 ⟨rfl, r2, s2⟩; rw [if_pos rfl] at r2; have HY := Hid.mk (And.intro r2 s2); clear r2 s2))
      go_ret
      rw [HT.out]
      exact ⟨rfl, ⟨p1, HY.out.1, HX.out.2.1, fun h => by simp at h⟩, HX.out.2.2.trans HY.out.2⟩
    · have hk' : ¬ (65536 : Int) < (k : Int) := by omega
      by_cases hs : b.size < p + k
      · have HT := Hid.mk (hT3 rfl hk hs)
        have HS := Hid.mk hs
        clear hT1 hT2 hT3 hT4 hk hs
        go_enter Try.func30, Try.ntmps30
        go_wp2_with (first
          | (go_at_call 31; refine ha.mono ?_; clear ha; rintro y w1 ⟨rfl, ⟨p1, r1, l1, e1⟩, s1⟩; have c0 : w1.cell? ⟨r, 0, none⟩ = some (.string b) := r1.cell rfl; have c1 : w1.cell? ⟨r, 1, none⟩ = some (.int .i64 p1) := r1.cell rfl; have c2 : w1.cell? ⟨r, 2, none⟩ = some (.int .i64 0) := r1.cell rfl; have HX := Hid.mk (And.intro r1 (And.intro l1 (And.intro s1 (e1 rfl)))); clear r1 l1 e1 s1))
        obtain ⟨dd, hdd⟩ : ∃ dd : Nat, dd = b.size - p1 := ⟨_, rfl⟩
        have hlt : (dd : Int) < (k : Int) := by have := HS.out; have := HX.out.2.1; have := HX.out.2.2.2; omega
        have q1 : IntKind.i64.wrap ((b.size : Int) - (p1 : Int)) = (dd : Int) := i64_eq (by have := HX.out.2.1; omega) (by omega)
        have q2 : wrap64 ((b.size : Int) - (p1 : Int)) = (dd : Int) := w64_eq (by have := HX.out.2.1; clear q1; omega) (by clear q1; omega)
        clear hdd
        go_quiet (fail)
        go_wp2_with (go_at_call 51; refine (rrefuse_any b p1 0 31 _ r (HC.drewN HX.out.1 _)).mono ?_; rintro y w2 ⟨rfl, r2, s2⟩; rw [if_pos rfl] at r2; have HY := Hid.mk (And.intro r2 s2); clear r2 s2)
        go_ret
        rw [HT.out]
        exact ⟨rfl, ⟨p1, HY.out.1, HX.out.2.1, fun h => by simp at h⟩, (HX.out.2.2.1.drewN _).trans HY.out.2⟩
      · have HT := Hid.mk (hT4 rfl hk hs)
        have HS := Hid.mk hs
        clear hT1 hT2 hT3 hT4 hk hs
        go_enter Try.func30, Try.ntmps30
        go_wp2_with (first
          | (go_at_call 31; refine ha.mono ?_; clear ha; rintro y w1 ⟨rfl, ⟨p1, r1, l1, e1⟩, s1⟩; have c0 : w1.cell? ⟨r, 0, none⟩ = some (.string b) := r1.cell rfl; have c1 : w1.cell? ⟨r, 1, none⟩ = some (.int .i64 p1) := r1.cell rfl; have c2 : w1.cell? ⟨r, 2, none⟩ = some (.int .i64 0) := r1.cell rfl; have zf := r1.free 1; have HX := Hid.mk (And.intro r1 (And.intro l1 (And.intro s1 (e1 rfl)))); clear r1 l1 e1 s1))
        obtain ⟨dd, hdd⟩ : ∃ dd : Nat, dd = b.size - p1 := ⟨_, rfl⟩
        obtain ⟨q, hq⟩ : ∃ q : Nat, q = p1 + k := ⟨_, rfl⟩
        have hpe : p1 = p := HX.out.2.2.2
        have hqb : q ≤ b.size := by have := HS.out; omega
        have hlt : ¬ (dd : Int) < (k : Int) := by have := HS.out; omega
        have QQ : Hid ((IntKind.i64.wrap ((b.size : Int) - (p1 : Int)) = (dd : Int) ∧ wrap64 ((b.size : Int) - (p1 : Int)) = (dd : Int)) ∧ (IntKind.i64.wrap ((p1 : Int) + (k : Int)) = (q : Int) ∧ wrap64 ((p1 : Int) + (k : Int)) = (q : Int)) ∧ IntKind.i64.wrap ((q : Int) - (k : Int)) = (p1 : Int) ∧ wrap64 ((q : Int) - (k : Int)) = (p1 : Int)) :=
          ⟨⟨i64_eq (by omega) (by omega), w64_eq (by omega) (by omega)⟩, ⟨i64_eq (by omega) (by omega), w64_eq (by omega) (by omega)⟩, i64_eq (by omega) (by omega), w64_eq (by omega) (by omega)⟩
        have HE := Hid.mk (show (⟨(sub b p1 k).toArray⟩ : ByteArray) = b.extract p1 q by rw [sub_ext, hq])
        have i1 : 0 ≤ (p1 : Int) := by omega
        have i2 : (p1 : Int) ≤ (q : Int) := by omega
        have i3 : (q : Int) ≤ (b.size : Int) := by omega
        have j2 : p1 ≤ q := by omega
        have HQ := Hid.mk (And.intro hqb (And.intro hq hpe))
        obtain ⟨⟨q1, q2⟩, ⟨q3, q4⟩, q5, q6⟩ := QQ.out
        clear hdd hq hpe QQ
        go_quiet (fail)
        go_wp2
        go_quiet (fail)
        go_wp2
        go_ret
        rw [HT.out]
        refine ⟨?_, ⟨q, HC.set (HC.drewN HX.out.1 _) 1 _, HQ.out.1, fun _ => by have := HQ.out.2; show q = p + k; omega⟩, ?_⟩
        · show Ending.returned (.string (b.extract p1 q)) = .returned (.string ⟨(sub b p k).toArray⟩)
          rw [← HE.out, HQ.out.2.2]
        · exact ((HX.out.2.2.1.drewN _).setCell (p := ⟨r, 1, none⟩) (fun _ => rfl) _).drewN _
  · have HT := Hid.mk (hT1 he)
    clear hT1 hT2 hT3 hT4
    go_enter Try.func30, Try.ntmps30
    go_wp2_with (first
      | (go_at_call 31; refine ha.mono ?_; clear ha; rintro y w1 ⟨rfl, ⟨p1, r1, l1, e1⟩, s1⟩; have c2 : w1.cell? ⟨r, 2, none⟩ = some (.int .i64 e) := r1.cell rfl; have HX := Hid.mk (And.intro (show RRd w1 r b (p, e) from ⟨p1, r1, l1, e1⟩) s1); clear r1 l1 e1 s1))
    go_ret
    rw [HT.out]
    exact ⟨rfl, HX.out.1, HX.out.2⟩
set_option maxHeartbeats 2000000 in
theorem ended_any (b : ByteArray) (s : RS) (w : World) (r : Nat) (hb : b.size < 4611686018427387904) (h : RRd w r b s) :
    Calls Try.prog 33 #[Pt r] w fun e w' => e = .returned (.int .i64 (endE b s)) ∧ Stay (· = r) w w' := by
  obtain ⟨p', h, hl, hp⟩ := h
  obtain ⟨p, e⟩ := s
  have c0 : w.cell? ⟨r, 0, none⟩ = some (.string b) := h.cell rfl
  have c1 : w.cell? ⟨r, 1, none⟩ = some (.int .i64 p') := h.cell rfl
  have c2 : w.cell? ⟨r, 2, none⟩ = some (.int .i64 e) := h.cell rfl
  have HR := Hid.mk h
  have HP := Hid.mk hp
  obtain ⟨y, hy⟩ : ∃ y : Int, y = endE b (p, e) := ⟨_, rfl⟩
  rw [← hy]
  have HY := Hid.mk hy
  unfold endE at hy
  simp only at hy
  clear h hl hp
  by_cases hlt : p' < b.size
  · have hl' : (p' : Int) < (b.size : Int) := by omega
    have HZ : Hid ((if e = 0 then (37 : Int) else e) = y) := by
      show _ = _
      rw [hy]
      by_cases he : e = 0
      · have : p' = p := HP.out he
        rw [if_pos he, if_pos ⟨he, by omega⟩]
      · rw [if_neg he, if_neg (fun h => he h.1)]
    clear hlt hy
    go_enter Try.func33, Try.ntmps33
    go_wp2
    go_quiet (fail)
    go_wp2_with (go_at_call 51; refine (rrefuse_any b p' e 37 _ r (HC.drewN HR.out _)).mono ?_; rintro z w1 ⟨rfl, r1, s1⟩; rw [HZ.out] at r1; have d2 : w1.cell? ⟨r, 2, none⟩ = some (.int .i64 y) := r1.cell rfl; have HX := Hid.mk s1; clear r1 s1)
    go_ret
    exact ⟨rfl, ((Stay.refl _ w).drewN _).trans HX.out⟩
  · have hl' : ¬ (p' : Int) < (b.size : Int) := by omega
    have HZ : Hid (e = y) := by
      show _ = _
      rw [hy, if_neg (fun h => by have : p' = p := HP.out h.1; omega)]
    clear hlt hy
    go_enter Try.func33, Try.ntmps33
    go_wp2
    go_quiet (fail)
    go_wp2
    go_ret
    refine ⟨?_, (Stay.refl _ w).drewN _⟩
    rw [← HZ.out]; rfl
end Go.Proofs.Ytjdknijjkjmafaa
