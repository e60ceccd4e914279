/-
  DERIVED. sign: New, check.
-/
import Derived.Test.YtmdmjjobhkpojaaQBase
set_option linter.unusedVariables false
set_option linter.unusedSimpArgs false
namespace Go.Proofs.Ytmdmjjobhkpojaa
open Go.RowKit Go.Proofs.FloatMath
theorem chk_e (x : Int) : chk x (ByteArray.mk #[]).size = if isW x = true then 11 else 10 := by
  cases h : isW x
  · rw [chk10 h]; rfl
  · have := isW_bd h
    unfold chk; rw [if_pos h, if_neg (by show ¬ ((0 : Int) = x / 8); omega)]; rfl
set_option maxHeartbeats 1000000 in
theorem new_any (x d sd : Int) (w : World) (R : Ending → World → Prop) (h0 : nwE x d ≠ 0 → R (.returned (.tuple #[.pointer none, .int .i64 (nwE x d)])) w)
    (h1 : nwE x d = 0 → R (.returned (.tuple #[.pointer (some ⟨w.heap.size, 0, none⟩), .int .i64 0])) (w.alloc (.cells #[.int .i64 x, .int .i64 d, .int .u64 sd] 60))) :
    Calls Try.prog 14 #[.int .i64 x, .int .i64 d, .int .u64 sd] w R := by
  have hc := chk_e x
  cases hW : isW x
  · have HN : Hid (nwE x d = 10) := by show nwE x d = 10; simp [nwE, hW]
    rw [hW, if_neg (by simp)] at hc
    have H0 := Hid.mk h0
    clear h0 h1 hW
    go_enter Try.func14, Try.ntmps14
    go_wp2_with (go_at_call 23; refine (check_any _ _ _).mono ?_; rintro e w' ⟨rfl, rfl⟩; rw [hc])
    have := H0.out (by rw [HN.out]; decide)
    rw [HN.out] at this
    exact this
  · rw [hW, if_pos rfl] at hc
    by_cases hd : 1 ≤ d ∧ d ≤ 1024
    · have HN : Hid (nwE x d = 0) := by show nwE x d = 0; simp [nwE, hW, hd]
      have d1 : ¬ d < 1 := by omega
      have d2 : ¬ 1024 < d := by omega
      have H1 := Hid.mk h1
      clear h0 h1 hW hd
      go_enter Try.func14, Try.ntmps14
      go_wp2_with (go_at_call 23; refine (check_any _ _ _).mono ?_; rintro e w' ⟨rfl, rfl⟩; rw [hc])
      exact H1.out HN.out
    · have HN : Hid (nwE x d = 190) := by show nwE x d = 190; simp [nwE, hW]; omega
      have H0 := Hid.mk h0
      clear h0 h1 hW
      by_cases d1 : d < 1
      · clear hd
        go_enter Try.func14, Try.ntmps14
        go_wp2_with (go_at_call 23; refine (check_any _ _ _).mono ?_; rintro e w' ⟨rfl, rfl⟩; rw [hc])
        have := H0.out (by rw [HN.out]; decide)
        rw [HN.out] at this
        exact this
      · have d2 : 1024 < d := by omega
        clear hd
        go_enter Try.func14, Try.ntmps14
        go_wp2_with (go_at_call 23; refine (check_any _ _ _).mono ?_; rintro e w' ⟨rfl, rfl⟩; rw [hc])
        have := H0.out (by rw [HN.out]; decide)
        rw [HN.out] at this
        exact this
/-- What check answers. -/
def okP (p : Zp) : Bool := isBd p.1 && isBd p.2
def ckE (dm : Nat) (v : List Zp) : Int := if v.length = dm then (if v.all okP = true then 0 else 191) else 190
theorem okP_no1 {p : Zp} (h : isBd p.1 = false) : okP p = false := by simp [okP, h]
theorem okP_no2 {p : Zp} (h : isBd p.2 = false) : okP p = false := by simp [okP, h]
theorem z_cells {w : World} {g off : Nat} {v : List Zp} (h : ∀ j x, (v.flatMap zC)[j]? = some x → w.cell? ⟨g, off + j, none⟩ = some x) (i : Nat) (hi : i < v.length) : w.cell? ⟨g, off + i * 2, none⟩ = some (.int .i64 v[i].1) ∧ w.cell? ⟨g, off + i * 2 + 1, none⟩ = some (.int .i64 v[i].2) := by
  have e0 := flat_at zC 2 (fun _ => rfl) v i 0 hi (by decide)
  have e1 := flat_at zC 2 (fun _ => rfl) v i 1 hi (by decide)
  exact ⟨h _ _ e0, by rw [Nat.add_assoc]; exact h _ _ e1⟩
theorem all_take_succ {p : Zp → Bool} {v : List Zp} {i : Nat} (hi : i < v.length) (h : (v.take i).all p = true) (k : p v[i] = true) : (v.take (i + 1)).all p = true := by
  rw [List.take_succ_eq_append_getElem hi, List.all_append, h]; simp [k]
set_option maxRecDepth 100000 in
set_option maxHeartbeats 2000000 in
theorem check_v (b wd dm : Nat) (sd : Int) (la : Option Addr) (c : Nat) (v : List Zp) (w : World) (hs : SgAt w b wd dm sd) (hd : 0 < dm) (hd2 : dm ≤ 1024) (hv : zE.At w la v) :
    Calls Try.prog 25 #[.pointer (some ⟨b, 0, none⟩), .slice la v.length c] w fun e w' => e = .returned (.int .i64 (ckE dm v)) ∧ Below w.heap.size w w' := by
  have s1 := hs.c1
  by_cases hl : v.length = dm
  · subst hl
    have hn : v ≠ [] := fun e => by subst e; simp at hd
    obtain ⟨g, off, rfl, hr⟩ := hv.at' hn
    have HR := Hid.mk hr
    have hgl : g < w.heap.size := by
      have := (z_cells hr 0 hd).1
      exact World.block_lt_of_cell? w _ this
    obtain ⟨n, en⟩ : ∃ n, v.length = n := ⟨_, rfl⟩
    have hn1 : ((n : Int) == 0) = false := by simp; omega
    have hn2 : ((n : Int) != n) = false := by simp
    have EN := Hid.mk en
    rw [en] at s1 hd hd2 ⊢
    have HD := Hid.mk hd2
    have HZ := Hid.mk hd
    clear hs hv hr hn en hd hd2
    go_enter Try.func25, Try.ntmps25
    go_wp2
    go_loopw [27] (fun f wr => ∃ (i : Nat), i ≤ n ∧ f = .int .i64 i ∧ (v.take i).all okP = true ∧ Below w.heap.size w wr) (fun f _ => n - (intOf f).toNat)
    case atStart => exact ⟨0, Nat.zero_le _, rfl, by simp, Below.refl _ _⟩
    case round =>
      obtain ⟨i, hi, rfl, ha, hB⟩ := hrel
      have HA := Hid.mk ha
      have HB := Hid.mk hB
      clear ha
      by_cases hlt : i < n
      · have hlv : i < v.length := by rw [EN.out]; exact hlt
        obtain ⟨c0, c1⟩ := z_cells HR.out i hlv
        have c0 := (hB.cell (p := ⟨g, off + i * 2, none⟩) hgl).trans c0
        have c1 := (hB.cell (p := ⟨g, off + i * 2 + 1, none⟩) hgl).trans c1
        obtain ⟨p, ep⟩ : ∃ p, v[i] = p := ⟨_, rfl⟩
        rw [ep] at c0 c1
        have EP := Hid.mk ep
        have hi2 : i < 1024 := by have := HD.out; omega
        clear ep hB s1
        cases h1 : isBd p.1
        · go_wp2_with (go_at_call 35; refine (isB_any _ _).mono ?_; rintro e w' ⟨rfl, rfl⟩; rw [h1])
          go_ret
          refine ⟨ret_int ?_, HB.out.alloc HB.out.size _⟩
          unfold ckE
          rw [if_pos EN.out, if_neg]
          intro hc
          have := List.all_eq_true.1 hc p (by rw [← EP.out]; exact List.getElem_mem _)
          rw [okP_no1 h1] at this; cases this
        · cases h2 : isBd p.2
          · have k1 := isB_any p.1
            have k2 := isB_any p.2
            rw [h1] at k1
            rw [h2] at k2
            go_wp2_with (go_at_call 35; first | (refine (k1 _).mono ?_; rintro e w' ⟨rfl, rfl⟩; clear k1) | (refine (k2 _).mono ?_; rintro e w' ⟨rfl, rfl⟩))
            go_ret
            refine ⟨ret_int ?_, HB.out.alloc HB.out.size _⟩
            unfold ckE
            rw [if_pos EN.out, if_neg]
            intro hc
            have := List.all_eq_true.1 hc p (by rw [← EP.out]; exact List.getElem_mem _)
            rw [okP_no2 h2] at this; cases this
          · have k1 := isB_any p.1
            have k2 := isB_any p.2
            rw [h1] at k1
            rw [h2] at k2
            go_wp2_with (go_at_call 35; first | (refine (k1 _).mono ?_; rintro e w' ⟨rfl, rfl⟩; clear k1) | (refine (k2 _).mono ?_; rintro e w' ⟨rfl, rfl⟩))
            go_roundw
            case rel => exact ⟨i + 1, hlt, by go_num, all_take_succ hlv HA.out (by rw [EP.out]; simp [okP, h1, h2]), HB.out.alloc HB.out.size _⟩
            case measure => simp [intOf]; omega
      · have e : i = n := by omega
        have HA2 : Hid (v.all okP = true) := by
          have := HA.out
          rw [List.take_of_length_le (by rw [EN.out]; omega)] at this
          exact this
        clear e HA
        go_wp2
        go_ret
        refine ⟨ret_int ?_, HB.out⟩
        unfold ckE
        rw [if_pos EN.out, if_pos HA2.out]
  · have HE : Hid (ckE dm v = 190) := by show ckE dm v = 190; unfold ckE; rw [if_neg hl]
    obtain ⟨n, en⟩ : ∃ n, v.length = n := ⟨_, rfl⟩
    rw [en] at hl ⊢
    have d0 : ((dm : Int) == 0) = false := by simp; omega
    have d1 : ((n : Int) != dm) = true := by simp; omega
    clear en hv hl hs
    go_enter Try.func25, Try.ntmps25
    go_wp2
    go_ret
    exact ⟨ret_int HE.out.symm, Below.refl _ _⟩
end Go.Proofs.Ytmdmjjobhkpojaa
