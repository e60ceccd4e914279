/-
  DERIVED. WireOnly's walk.
-/
import Derived.Test.YtnkepggldlobjaaWBeg
set_option linter.unusedVariables false
set_option linter.unusedSimpArgs false
namespace Go.Proofs.Ytnkepggldlobjaa
open Go.RowKit Go.Proofs.SealMath
theorem rdQ_w (i : Nat) (b : ByteArray) (p : Nat) (m : Nat) (hp : p ≤ b.size) : RqW (fsQ m (rdQ i b (p, 0)).1) := by
  have h1 := (rdN_le b (p, 0) hp).2
  have h2 := (rdN_le b (rdT b (p, 0)).2 (rdT_le b (p, 0) hp).1).2
  unfold rdQ
  split
  · exact ⟨by simp only [fsQ]; omega, by simp [fsQ], by simp [fsQ]⟩
  · exact ⟨by simp only [fsQ]; omega, by simp [fsQ], by simp [fsQ]⟩
  · exact ⟨by simp only [fsQ]; omega, by simp [fsQ], by simp [fsQ]⟩
  · exact ⟨by simp [fsQ], by simp only [fsQ]; omega, by simp [fsQ]⟩
  · exact ⟨by simp [fsQ], by simp [fsQ], by simp only [fsQ]; omega⟩
  · exact ⟨by simp [fsQ], by simp [fsQ], by simp [fsQ]⟩
theorem asked_w (b : ByteArray) : RqW (fsQ (askedA b).1 (askedA b).2.1) := by
  unfold askedA
  by_cases hx : (hdX 81 b).1 = 0
  · rw [if_neg (fun g => g hx)]
    split
    · exact ⟨by simp [fsQ, zFs], by simp [fsQ, zFs], by simp [fsQ, zFs]⟩
    · exact rdQ_w _ b 2 _ (hd_bytes hx (by omega)).1
  · rw [if_pos hx]
    exact ⟨by simp [fsQ, zFs], by simp [fsQ, zFs], by simp [fsQ, zFs]⟩
theorem asked_zero (b : ByteArray) (h : (askedA b).2.2 ≠ 0) : askedA b = (0, zFs, (askedA b).2.2) := by
  unfold askedA at h ⊢
  split
  · rfl
  · rename_i h1
    rw [if_neg h1] at h
    split
    · rfl
    · rename_i h2
      rw [if_neg h2] at h
      exact absurd rfl h
theorem told_zero (b : ByteArray) (h : (toldA b).2.2 ≠ 0) : toldA b = (0, (0, 0, [], []), (toldA b).2.2) := by
  unfold toldA at h ⊢
  split
  · rfl
  · rename_i h1
    rw [if_neg h1] at h
    split
    · rfl
    · rename_i h2
      rw [if_neg h2] at h
      exact absurd rfl h
set_option maxHeartbeats 4000000 in
set_option maxRecDepth 100000 in
theorem law_only (b : ByteArray) (w : World) (hb : b.size < 4611686018427387904) :
    Calls Try.prog 7 #[.string b] w fun e w' => e = .returned (.bool true) ∧ Below w.heap.size w w' := by
  have hBg := begun_law w
  have hAd := fun W => asked_any b W hb
  have hTd := fun W => told_any b W hb
  have hAk := fun W => ask_any (fsQ (askedA b).1 (askedA b).2.1) (asked_w b) W
  have hSm := fun W av cv => same_any ⟨0, 0, ⟨#[]⟩⟩ [] av none cv 0 W (.inl rfl) (.inl rfl) (by simp)
  simp only [rpC, List.length_nil] at hSm
  by_cases he : (askedA b).2.2 = 0
  · obtain ⟨a1, a2⟩ := ask_again b he
    have hf : (toldA b).2.2 ≠ 0 := fun h => not_both b a2 (tell_again b h).2.1
    have ht := told_zero b hf
    obtain ⟨f, hfe⟩ : ∃ f, f = (toldA b).2.2 := ⟨_, rfl⟩
    rw [← hfe] at ht hf
    rw [ht] at hTd
    rw [a1] at hAk
    simp only [ba_eq] at hAk
    obtain ⟨m, F, x, hA⟩ : ∃ m F x, askedA b = (m, F, x) := ⟨_, _, _, rfl⟩
    rw [hA] at hAd hAk he
    simp only at he
    subst he
    obtain ⟨id, c', k, r⟩ := F
    simp only [rqV, rqC, Tx, fsQ] at hAd hAk
    obtain ⟨c, hc⟩ : ∃ c : ByteArray, c = ⟨c'.toArray⟩ := ⟨_, rfl⟩
    rw [← hc] at hAd hAk
    have HTD := Hid.mk hTd
    clear hc hA ht hfe a1 a2 hTd hb
    have HAk := Hid.mk hAk
    clear hAk
    go_enter Try.func7, Try.ntmps7
    go_wp2_with (first
      | (go_at_call 16; refine hBg.mono ?_; clear hBg; rintro y w1 ⟨rfl, b1⟩; have H1 := Hid.mk b1; clear b1)
      | (go_at_call 11; refine (hAd _).mono ?_; clear hAd; rintro y w2 ⟨rfl, b2⟩; have H2 := Hid.mk b2; clear b2)
      | (go_at_call 17; refine (HTD.out _).mono ?_; clear HTD; rintro y w3 ⟨v3, rfl, row3, own3, b3⟩; obtain ⟨av, cv, hav, -⟩ := slice_form row3; simp only [List.length_nil] at hav; subst hav; have kq := HC.below (HC.new w2 #[.int .i64 m, .int .i64 id, .string c, .int .i64 k, .int .i64 r] 23) b3; have lq := kq.lt; have y0 : w3.cell? ⟨w2.heap.size, 0, none⟩ = some (.int .i64 m) := kq.cell rfl; have y1 : w3.cell? ⟨w2.heap.size, 1, none⟩ = some (.int .i64 id) := kq.cell rfl; have y2 : w3.cell? ⟨w2.heap.size, 2, none⟩ = some (.string c) := kq.cell rfl; have y3 : w3.cell? ⟨w2.heap.size, 3, none⟩ = some (.int .i64 k) := kq.cell rfl; have y4 : w3.cell? ⟨w2.heap.size, 4, none⟩ = some (.int .i64 r) := kq.cell rfl; have H3 := Hid.mk b3; clear row3 own3 kq b3)
      | (go_at_call 9; refine (HAk.out _).mono ?_; clear HAk; rintro y w4 ⟨rfl, b4⟩; have kr := HC.below (HC.new w3 #[.int .i64 0, .int .i64 0, .string ⟨#[]⟩, .slice av 0 cv] 37) b4; have z0 : w4.cell? ⟨w3.heap.size, 0, none⟩ = some (.int .i64 0) := kr.cell rfl; have z1 : w4.cell? ⟨w3.heap.size, 1, none⟩ = some (.int .i64 0) := kr.cell rfl; have z2 : w4.cell? ⟨w3.heap.size, 2, none⟩ = some (.string ⟨#[]⟩) := kr.cell rfl; have z3 : w4.cell? ⟨w3.heap.size, 3, none⟩ = some (.slice av 0 cv) := kr.cell rfl; have H4 := Hid.mk b4; clear kr b4)
      | (go_at_call 18; refine (hSm _ av cv).mono ?_; clear hSm; rintro y w5 ⟨rfl, b5⟩; have H5 := Hid.mk b5; clear b5))
    go_ret
    have s1 : Below w.heap.size w (w2.alloc (.cells #[.int .i64 m, .int .i64 id, .string c, .int .i64 k, .int .i64 r] 23)) := (chain H1.out H2.out (Nat.le_refl _)).alloc (Nat.le_trans H1.out.size H2.out.size) _
    have s2 := chain s1 H3.out (Nat.le_refl _)
    have s3 : Below w.heap.size w (w3.alloc (.cells #[.int .i64 0, .int .i64 0, .string ⟨#[]⟩, .slice av 0 cv] 37)) := s2.alloc s2.size _
    exact ⟨rfl, chain (chain s3 H4.out (Nat.le_refl _)) H5.out (Nat.le_refl _)⟩
  · have ha := asked_zero b he
    obtain ⟨x, hxe⟩ : ∃ x, x = (askedA b).2.2 := ⟨_, rfl⟩
    rw [← hxe] at ha he
    rw [ha] at hAd
    simp only [rqC, Tx, zFs] at hAd
    have hneq := fun W => rq_neq ⟨0, 0, ⟨#[]⟩, 0, 0⟩ ⟨0, 0, ⟨#[]⟩, 0, 0⟩ W
    rw [(rqE_iff _ _).2 rfl] at hneq
    simp only [rqV, Bool.not_true] at hneq
    clear ha hxe hAk
    by_cases hf : (toldA b).2.2 = 0
    · obtain ⟨a1, -, a3, a4, a5⟩ := tell_again b hf
      have hTl := fun W a cap h => tell_any (toldA b).1 ⟨(toldA b).2.1.1, (toldA b).2.1.2.1, ⟨(toldA b).2.1.2.2.1.toArray⟩⟩ (toldA b).2.1.2.2.2 a cap a5 a3 (by omega) W h
      rw [a1] at hTl
      simp only [ba_eq] at hTl
      obtain ⟨op, T3, z, hA⟩ : ∃ op T3 z, toldA b = (op, T3, z) := ⟨_, _, _, rfl⟩
      obtain ⟨e, n, t', L⟩ := T3
      rw [hA] at hTd hTl hf
      simp only at hf
      subst hf
      simp only [rpC] at hTl
      have HTD := Hid.mk hTd
      have HTL := Hid.mk hTl
      clear hA hTd hTl a1 a3 a4 a5 hSm hb
      go_enter Try.func7, Try.ntmps7
      go_wp2_with (first
        | (go_at_call 16; refine hBg.mono ?_; clear hBg; rintro y w1 ⟨rfl, b1⟩; have H1 := Hid.mk b1; clear b1)
        | (go_at_call 11; refine (hAd _).mono ?_; clear hAd; rintro y w2 ⟨rfl, b2⟩; have H2 := Hid.mk b2; clear b2)
        | (go_at_call 17; refine (HTD.out _).mono ?_; clear HTD; rintro y w3 ⟨v3, rfl, row3, own3, b3⟩; obtain ⟨av, cv, hav, -⟩ := slice_form row3; subst hav; have kq := HC.below (HC.new w2 #[.int .i64 0, .int .i64 0, .string ⟨#[]⟩, .int .i64 0, .int .i64 0] 23) b3; have lq := kq.lt; have y0 : w3.cell? ⟨w2.heap.size, 0, none⟩ = some (.int .i64 0) := kq.cell rfl; have y1 : w3.cell? ⟨w2.heap.size, 1, none⟩ = some (.int .i64 0) := kq.cell rfl; have y2 : w3.cell? ⟨w2.heap.size, 2, none⟩ = some (.string ⟨#[]⟩) := kq.cell rfl; have y3 : w3.cell? ⟨w2.heap.size, 3, none⟩ = some (.int .i64 0) := kq.cell rfl; have y4 : w3.cell? ⟨w2.heap.size, 4, none⟩ = some (.int .i64 0) := kq.cell rfl; have H3 := Hid.mk (And.intro b3 (HRow.at row3 rfl)); clear row3 own3 kq b3)
        | (go_at_call 13; refine (HTL.out _ av cv (H3.out.2.below ((Below.refl _ w3).alloc (Nat.le_refl _) _))).mono ?_; clear HTL; rintro y w4 ⟨rfl, b4⟩; have H4 := Hid.mk b4; clear b4))
      go_ret
      have s1 : Below w.heap.size w (w2.alloc (.cells #[.int .i64 0, .int .i64 0, .string ⟨#[]⟩, .int .i64 0, .int .i64 0] 23)) := (chain H1.out H2.out (Nat.le_refl _)).alloc (Nat.le_trans H1.out.size H2.out.size) _
      have s2 := chain s1 H3.out.1 (Nat.le_refl _)
      exact ⟨rfl, chain (s2.alloc s2.size _) H4.out (Nat.le_refl _)⟩
    · have ht := told_zero b hf
      obtain ⟨f, hfe⟩ : ∃ f, f = (toldA b).2.2 := ⟨_, rfl⟩
      rw [← hfe] at ht hf
      rw [ht] at hTd
      have HTD := Hid.mk hTd
      clear ht hfe hTd hb
      go_enter Try.func7, Try.ntmps7
      go_wp2_with (first
        | (go_at_call 16; refine hBg.mono ?_; clear hBg; rintro y w1 ⟨rfl, b1⟩; have H1 := Hid.mk b1; clear b1)
        | (go_at_call 11; refine (hAd _).mono ?_; clear hAd; rintro y w2 ⟨rfl, b2⟩; have H2 := Hid.mk b2; clear b2)
        | (go_at_call 17; refine (HTD.out _).mono ?_; clear HTD; rintro y w3 ⟨v3, rfl, row3, own3, b3⟩; obtain ⟨av, cv, hav, -⟩ := slice_form row3; simp only [List.length_nil] at hav; subst hav; have kq := HC.below (HC.new w2 #[.int .i64 0, .int .i64 0, .string ⟨#[]⟩, .int .i64 0, .int .i64 0] 23) b3; have lq := kq.lt; have y0 : w3.cell? ⟨w2.heap.size, 0, none⟩ = some (.int .i64 0) := kq.cell rfl; have y1 : w3.cell? ⟨w2.heap.size, 1, none⟩ = some (.int .i64 0) := kq.cell rfl; have y2 : w3.cell? ⟨w2.heap.size, 2, none⟩ = some (.string ⟨#[]⟩) := kq.cell rfl; have y3 : w3.cell? ⟨w2.heap.size, 3, none⟩ = some (.int .i64 0) := kq.cell rfl; have y4 : w3.cell? ⟨w2.heap.size, 4, none⟩ = some (.int .i64 0) := kq.cell rfl; have H3 := Hid.mk b3; clear row3 own3 kq b3)
        | (go_at_call 18; refine (hSm _ av cv).mono ?_; clear hSm; rintro y w5 ⟨rfl, b5⟩; have H5 := Hid.mk b5; clear b5))
      go_ret
      have s1 : Below w.heap.size w (w2.alloc (.cells #[.int .i64 0, .int .i64 0, .string ⟨#[]⟩, .int .i64 0, .int .i64 0] 23)) := (chain H1.out H2.out (Nat.le_refl _)).alloc (Nat.le_trans H1.out.size H2.out.size) _
      have s2 := chain s1 H3.out (Nat.le_refl _)
      exact ⟨rfl, chain (s2.alloc s2.size _) H5.out (Nat.le_refl _)⟩
end Go.Proofs.Ytnkepggldlobjaa
