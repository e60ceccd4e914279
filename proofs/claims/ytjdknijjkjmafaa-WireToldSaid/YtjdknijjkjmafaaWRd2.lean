/-
  DERIVED. A reader: bytes, a text, the end.
-/
import Derived.Test.YtjdknijjkjmafaaWRd
set_option linter.unusedVariables false
set_option linter.unusedSimpArgs false
namespace Go.Proofs.Ytjdknijjkjmafaa
open Go.RowKit Go.Proofs.SealMath
theorem sub_ext (b : ByteArray) (a n : Nat) : (⟨(sub b a n).toArray⟩ : ByteArray) = b.extract a (a + n) := by
  apply ByteArray.ext
  unfold sub
  rw [ByteArray.data_extract]
  apply Array.toList_inj.1
  simp
theorem i64_eq {x : Int} {n : Nat} (e : x = (n : Int)) (h1 : n < 9223372036854775808) : IntKind.i64.wrap x = (n : Int) := by rw [e]; exact i64_in _ (by omega) (by omega)
theorem w64_in (n : Int) (h0 : 0 ≤ n) (h1 : n < 2 ^ 63) : wrap64 n = n := by
  have := i64_in n h0 h1
  rw [IntKind.wrap_i64] at this
  unfold wrap64; exact this
theorem w64_eq {x : Int} {n : Nat} (e : x = (n : Int)) (h1 : n < 9223372036854775808) : wrap64 x = (n : Int) := by rw [e]; exact w64_in _ (by omega) (by omega)
set_option maxHeartbeats 2000000 in
theorem bytes_any (b : ByteArray) (s : RS) (k : Nat) (w : World) (r : Nat) (hb : b.size < 4611686018427387904) (hp : s.1 ≤ b.size) (hk : k ≤ 65536) (h : RdAt w r b s) :
    Calls Try.prog 46 #[Pt r, .int .i64 k] w fun e w' => e = .returned (.string ⟨(rdB k b s).1.toArray⟩) ∧ RdAt w' r b (rdB k b s).2 ∧ Stay (· = r) w w' := by
  obtain ⟨p, e⟩ := s
  have c0 : w.cell? ⟨r, 0, none⟩ = some (.string b) := HC.cell h rfl
  have c1 : w.cell? ⟨r, 1, none⟩ = some (.int .i64 p) := HC.cell h rfl
  have c2 : w.cell? ⟨r, 2, none⟩ = some (.int .i64 e) := HC.cell h rfl
  have z1 := HC.free h 1
  obtain ⟨n, hn⟩ : ∃ n, n = b.size := ⟨_, rfl⟩
  obtain ⟨d, hd⟩ : ∃ d, d = n - p := ⟨_, rfl⟩
  simp only at hp
  have Q : Hid (IntKind.i64.wrap ((b.size : Int) - (p : Int)) = (d : Int) ∧ wrap64 ((b.size : Int) - (p : Int)) = (d : Int)) := ⟨i64_eq (by omega) (by omega), w64_eq (by omega) (by omega)⟩
  by_cases he : e = 0
  · subst he
    by_cases hl : b.size < p + k
    · have hd' : (d : Int) < (k : Int) := by omega
      have HF := Hid.mk (show rdB k b (p, 0) = ([], (p, 31)) by unfold rdB; rw [if_neg (by simp), if_pos hl])
      have HR := Hid.mk h
      obtain ⟨q1, q2⟩ := Q.out
      clear h hl hd hn hp Q
      go_enter Try.func46, Try.ntmps46
      go_wp2
      go_quiet (fail)
      go_wp2_with (go_at_call 47; refine (refuse_any b (p, 0) 31 _ r (HC.drewN HR.out _)).mono ?_; rintro e w1 ⟨rfl, r1, s1⟩; have d2 : w1.cell? ⟨r, 2, none⟩ = some (.int .i64 31) := HC.cell r1 rfl; have HX := Hid.mk (And.intro r1 s1); clear r1 s1)
      go_ret
      rw [HF.out]
      exact ⟨rfl, HX.out.1, ((Stay.refl _ w).drewN _).trans HX.out.2⟩
    · have hd' : ¬ (d : Int) < (k : Int) := by omega
      obtain ⟨q, hq⟩ : ∃ q, q = p + k := ⟨_, rfl⟩
      have Q2 : Hid ((IntKind.i64.wrap ((p : Int) + (k : Int)) = (q : Int) ∧ wrap64 ((p : Int) + (k : Int)) = (q : Int)) ∧ IntKind.i64.wrap ((q : Int) - (k : Int)) = (p : Int) ∧ wrap64 ((q : Int) - (k : Int)) = (p : Int)) :=
        ⟨⟨i64_eq (by omega) (by omega), w64_eq (by omega) (by omega)⟩, i64_eq (by omega) (by omega), w64_eq (by omega) (by omega)⟩
      have HF := Hid.mk (show rdB k b (p, 0) = (sub b p k, (q, 0)) by unfold rdB; rw [if_neg (by simp), if_neg hl, hq])
      have HE := Hid.mk (show (⟨(sub b p k).toArray⟩ : ByteArray) = b.extract p q by rw [sub_ext, hq])
      have i1 : 0 ≤ (p : Int) := by omega
      have i2 : (p : Int) ≤ (q : Int) := by omega
      have i3 : (q : Int) ≤ (b.size : Int) := by omega
      have j2 : p ≤ q := by omega
      have j3 : q ≤ b.size := by omega
      have HR := Hid.mk h
      obtain ⟨q1, q2⟩ := Q.out
      obtain ⟨⟨q3, q4⟩, q5, q6⟩ := Q2.out
      clear h hl hd hn hp hq Q Q2
      go_enter Try.func46, Try.ntmps46
      go_wp2
      go_quiet (fail)
      go_wp2
      go_quiet (fail)
      go_wp2
      go_ret
      rw [HF.out]
      refine ⟨?_, HC.set (HC.drewN HR.out _) 1 _, ?_⟩
      · show Ending.returned (.string (b.extract p q)) = .returned (.string ⟨(sub b p k).toArray⟩)
        rw [HE.out]
      · exact (((Stay.refl (· = r) w).drewN _).setCell (p := ⟨r, 1, none⟩) (fun _ => rfl) _).drewN _
  · have HF := Hid.mk (show rdB k b (p, e) = ([], (p, e)) by unfold rdB; rw [if_pos he])
    have HR := Hid.mk h
    by_cases hl : b.size < p + k
    · have hd' : (d : Int) < (k : Int) := by omega
      obtain ⟨q1, q2⟩ := Q.out
      clear h hl hd hn hp Q
      go_enter Try.func46, Try.ntmps46
      go_wp2
      go_quiet (fail)
      go_wp2_with (go_at_call 47; refine (refuse_any b (p, e) 31 _ r (HC.drewN HR.out _)).mono ?_; rintro e' w1 ⟨rfl, r1, s1⟩; unfold rfS at r1; rw [if_neg he] at r1; have d2 : w1.cell? ⟨r, 2, none⟩ = some (.int .i64 e) := HC.cell r1 rfl; have HX := Hid.mk (And.intro r1 s1); clear r1 s1)
      go_ret
      rw [HF.out]
      exact ⟨rfl, HX.out.1, ((Stay.refl _ w).drewN _).trans HX.out.2⟩
    · have hd' : ¬ (d : Int) < (k : Int) := by omega
      obtain ⟨q1, q2⟩ := Q.out
      clear h hl hd hn hp Q
      go_enter Try.func46, Try.ntmps46
      go_wp2
      go_quiet (fail)
      go_wp2
      go_ret
      rw [HF.out]
      exact ⟨rfl, HC.drewN HR.out _, (Stay.refl _ w).drewN _⟩
/-- What is wrong at the end. -/
def endE (b : ByteArray) (s : RS) : Int := if s.2 = 0 ∧ s.1 < b.size then 37 else s.2
set_option maxHeartbeats 2000000 in
theorem end_any (b : ByteArray) (s : RS) (w : World) (r : Nat) (hb : b.size < 4611686018427387904) (h : RdAt w r b s) :
    Calls Try.prog 27 #[Pt r] w fun e w' => e = .returned (.int .i64 (endE b s)) ∧ Stay (· = r) w w' := by
  obtain ⟨p, e⟩ := s
  have c0 : w.cell? ⟨r, 0, none⟩ = some (.string b) := HC.cell h rfl
  have c1 : w.cell? ⟨r, 1, none⟩ = some (.int .i64 p) := HC.cell h rfl
  have c2 : w.cell? ⟨r, 2, none⟩ = some (.int .i64 e) := HC.cell h rfl
  have HR := Hid.mk h
  by_cases hl : p < b.size
  · have hl' : (p : Int) < (b.size : Int) := by omega
    have HL := Hid.mk hl
    obtain ⟨y, hy⟩ : ∃ y : Int, y = if e = 0 then 37 else e := ⟨_, rfl⟩
    have HY := Hid.mk hy
    have HE : Hid (endE b (p, e) = y) := by
      show _ = _
      unfold endE
      rw [hy]
      by_cases he : e = 0
      · rw [if_pos he, if_pos ⟨he, hl⟩]
      · rw [if_neg he, if_neg (fun h => he h.1)]
    clear h hl hy
    go_enter Try.func27, Try.ntmps27
    go_wp2
    go_quiet (fail)
    go_wp2_with (go_at_call 47; refine (refuse_any b (p, e) 37 _ r (HC.drewN HR.out _)).mono ?_; rintro e' w1 ⟨rfl, r1, s1⟩; unfold rfS at r1; simp only at r1; rw [← HY.out] at r1; have d2 : w1.cell? ⟨r, 2, none⟩ = some (.int .i64 y) := HC.cell r1 rfl; have HX := Hid.mk (And.intro r1 s1); clear r1 s1)
    go_ret
    rw [HE.out]
    exact ⟨rfl, ((Stay.refl _ w).drewN _).trans HX.out.2⟩
  · have hl' : ¬ (p : Int) < (b.size : Int) := by omega
    have HL := Hid.mk hl
    clear h hl
    go_enter Try.func27, Try.ntmps27
    go_wp2
    go_quiet (fail)
    go_wp2
    go_ret
    refine ⟨?_, (Stay.refl _ w).drewN _⟩
    unfold endE
    rw [if_neg (fun h => HL.out h.2)]
    rfl
theorem rdB_le (b : ByteArray) (s : RS) (k : Nat) (h : s.1 ≤ b.size) : (rdB k b s).2.1 ≤ b.size ∧ (rdB k b s).1.length ≤ k := by
  unfold rdB
  split
  · exact ⟨h, Nat.zero_le _⟩
  · split
    · exact ⟨h, Nat.zero_le _⟩
    · rename_i h1
      refine ⟨by simp only at h1 ⊢; omega, ?_⟩
      unfold sub; rw [List.length_take]; omega
theorem rdU_le (b : ByteArray) (s : RS) (m : Nat) (x : Int) (h : s.1 ≤ b.size) : (rdU m x b s).2.1 ≤ b.size ∧ (rdU m x b s).1 ≤ m := by
  have := rdN_le b s h
  unfold rdU
  split
  · exact ⟨this.1, Nat.zero_le _⟩
  · exact ⟨this.1, by omega⟩
theorem rdT_le (b : ByteArray) (s : RS) (h : s.1 ≤ b.size) : (rdT b s).2.1 ≤ b.size ∧ (rdT b s).1.length ≤ 65536 := by
  have h1 := rdU_le b s 65536 36 h
  have h2 := rdB_le b (rdU 65536 36 b s).2 (rdU 65536 36 b s).1 h1.1
  exact ⟨h2.1, Nat.le_trans h2.2 h1.2⟩
abbrev Tx (l : List UInt8) : Value := .string ⟨l.toArray⟩
set_option maxHeartbeats 2000000 in
theorem rtext_any (b : ByteArray) (s : RS) (w : World) (r g o : Nat) (C : Array Value) (T : TypeId) (x0 : ByteArray) (hb : b.size < 4611686018427387904) (hp : s.1 ≤ b.size) (h : RdAt w r b s) (hg : HC w g C T) (ho : C[o]? = some (.string x0)) (hne : g ≠ r) :
    Calls Try.prog 49 #[Pt r, Pc g o] w fun e w' => e = Un ∧ RdAt w' r b (rdT b s).2 ∧ HC w' g (C.setIfInBounds o (Tx (rdT b s).1)) T ∧ Stay (fun k => k = r ∨ k = g) w w' := by
  have hU := upto_any b s 65536 36 w r hb hp (Nat.le_refl _) h
  have hl := rdU_le b s 65536 36 hp
  obtain ⟨k, s1, hk⟩ : ∃ k s1, rdU 65536 36 b s = (k, s1) := ⟨_, _, rfl⟩
  have hT : rdT b s = rdB k b s1 := by unfold rdT; rw [hk]
  rw [hk] at hU hl
  rw [hT]
  obtain ⟨l, s2, hl2⟩ : ∃ l s2, rdB k b s1 = (l, s2) := ⟨_, _, rfl⟩
  have hB := fun W (hW : RdAt W r b s1) => bytes_any b s1 k W r hb hl.1 hl.2 hW
  have hle := (rdB_le b s1 k hl.1).2
  rw [hl2] at hB hle ⊢
  have hle2 : (⟨l.toArray⟩ : ByteArray).size ≤ 65536 := by
    have : (⟨l.toArray⟩ : ByteArray).size = l.length := by simp [ByteArray.size]
    rw [this]; have := hl.2; simp only at hle this; omega
  have hC := fun W => clone_any ⟨l.toArray⟩ W hle2
  have HB := Hid.mk hB
  have HG := Hid.mk (And.intro hg ho)
  clear hg ho hl hle hle2 hl2 hT hk hB h
  go_enter Try.func49, Try.ntmps49
  go_wp2_with (first
    | (go_at_call 24; refine hU.mono ?_; clear hU; rintro e w1 ⟨rfl, r1, s1'⟩; have HA := Hid.mk (And.intro r1 s1'); clear r1 s1')
    | (go_at_call 46; refine (HB.out _ HA.out.1).mono ?_; rintro e w2 ⟨rfl, r2, s2'⟩; have HD := Hid.mk (And.intro r2 s2'); clear r2 s2')
    | (go_at_call 64; refine (hC _).mono ?_; clear hC; rintro e w3 ⟨rfl, b3⟩; have hg3 := HC.below (HC.stay (HC.stay HG.out.1 HA.out.2 hne) HD.out.2 hne) b3; have n0 := hg3.cell HG.out.2; have nz := hg3.free o; have HK := Hid.mk (And.intro hg3 b3); clear hg3 b3))
  first | go_end0 | refine bodyPost_ret (results_none rfl _ _ _) rfl ?_
  have r3 := HC.below HD.out.1 HK.out.2
  have hne2 : r ≠ g := fun e => hne e.symm
  refine ⟨rfl, HC.far r3 (p := ⟨g, o, none⟩) hne2 _, HC.set HK.out.1 o _, ?_⟩
  have sA : Stay (fun k => k = r ∨ k = g) w w3 := ((HA.out.2.trans HD.out.2).mono (fun k _ hk => .inl hk)).trans (.below HK.out.2)
  exact sA.setCell (p := ⟨g, o, none⟩) (fun _ => .inr rfl) _
end Go.Proofs.Ytjdknijjkjmafaa
