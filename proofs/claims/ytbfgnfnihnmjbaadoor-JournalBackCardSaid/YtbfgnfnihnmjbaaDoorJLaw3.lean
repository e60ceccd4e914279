/-
  DERIVED. JournalBack.
-/
import Derived.Test.YtbfgnfnihnmjbaaDoorJGoes
import Derived.Test.YtbfgnfnihnmjbaaDoorJRead
import Derived.Deep.RegionHeld
set_option linter.unusedVariables false
set_option linter.unusedSimpArgs false
namespace Go.Proofs.YtbfgnfnihnmjbaaDoor
open Go.RowKit Go.Proofs.SealMath
theorem read_write (s k i : Nat) (c : List UInt8) (x : Int) (hk : k = 1 ∨ k = 2) (hs : 1 ≤ s ∧ s ≤ 1152921504606846976) (hi : i ≤ 281474976710656) (hc : c.length ≤ 128) (hW : isW x = true) :
    rdA ⟨(frL k (upP s i c)).toArray⟩ x = if fitB k c.length x = true then (⟨s, k, i, c⟩, 0) else (up0, 11) := by
  have hl := upP_len s i c
  obtain ⟨b, hb⟩ : ∃ b : ByteArray, b = ⟨(frL k (upP s i c)).toArray⟩ := ⟨_, rfl⟩
  have hbl : b.data.toList = frL k (upP s i c) := by rw [hb]
  have hsz : b.size = (upP s i c).length + 14 := by rw [ba_len, hbl, frL_len]
  have h := psA_frame b 0 k (upP s i c) (by omega) (by omega) (by omega) (by omega) (by
    unfold sub; rw [hbl, List.drop_zero, ← frL_len k]; exact List.take_length)
  rw [← hb]
  unfold rdA
  rw [if_pos hW, h]
  dsimp only
  rw [if_pos rfl, if_pos (by omega)]
  exact un_put k s i c x hk hs hi
theorem read_only (b : ByteArray) (x : Int) (h : (rdA b x).2 = 0) : ∃ s k i c, rdA b x = (⟨s, k, i, c⟩, 0) ∧ (k = 1 ∨ k = 2) ∧ (1 ≤ s ∧ s ≤ 1152921504606846976) ∧ i ≤ 281474976710656 ∧ fitB k c.length x = true ∧ isW x = true ∧ b.data.toList = frL k (upP s i c) := by
  unfold rdA at h ⊢
  split at h
  · rename_i hW
    split at h
    · rename_i h1
      split at h
      · rename_i h2
        obtain ⟨s, i, c, e, hk, hs, hi, hf, hp⟩ := un_only _ _ _ h
        obtain ⟨k, p, g1, g2, g3, g4, g5, g6⟩ := psA_yes b 0 h1
        rw [if_pos hW, if_pos h1, if_pos h2, e]
        rw [g5] at h2 hk hf hp
        dsimp only at h2 hk hf hp
        rw [g5]
        refine ⟨s, k, i, c, rfl, hk, hs, hi, hf, hW, ?_⟩
        have hp' : p = upP s i c := hp
        rw [← hp', ← g6]
        unfold sub
        rw [List.drop_zero, List.take_of_length_le]
        rw [← ba_len]; omega
      · simp at h
    · rename_i h1; exact absurd h h1
  · simp at h
theorem read_no (b : ByteArray) (x : Int) (h : (rdA b x).2 ≠ 0) : (rdA b x).1 = up0 := by
  unfold rdA at h ⊢
  split
  · split
    · split
      · rename_i h1 h2 h3
        rw [if_pos h1, if_pos h2, if_pos h3] at h
        exact un_no _ _ _ h
      · rfl
    · rfl
  · rfl
theorem goU_ok (k i : Int) (c : ByteArray) (s : Nat) : ((goU k i c s).k = 1 ∧ (goU k i c s).c.length = 8 ∨ (goU k i c s).k = 2 ∧ (goU k i c s).c = []) ∧ (goU k i c s).i ≤ 281474976710656 ∧ (goU k i c s).s = s := by
  unfold goU
  have h2 : k % 2 = 0 ∨ k % 2 = 1 := by omega
  refine ⟨?_, by show (i % 281474976710657).toNat ≤ _; omega, rfl⟩
  rcases h2 with h | h
  · left; rw [h]; exact ⟨rfl, by rw [if_pos rfl]; exact codeL_len c⟩
  · right; rw [h]; exact ⟨rfl, by rw [if_neg (by decide)]⟩
theorem UAt.later {w w' : World} {g : Nat} {s k i : Int} {c : ByteArray} (h : UAt w g s k i c) (b : Below w.heap.size w w') : UAt w' g s k i c := h.below b (World.block_lt_of_cell? _ _ h.c0)
theorem UAt.set {w : World} {g : Nat} {s k i s' k' i' : Int} {c c' : ByteArray} (h : UAt w g s k i c) : UAt ((((w.setCell ⟨g, 0, none⟩ (.int .i64 s')).setCell ⟨g, 1, none⟩ (.int .i64 k')).setCell ⟨g, 2, none⟩ (.int .i64 i')).setCell ⟨g, 3, none⟩ (.string c')) g s' k' i' c' := by
  obtain ⟨h0, h1, h2, h3⟩ := h
  constructor <;> go_simp
theorem below_al (W : World) (o : Obj) : Below W.heap.size W (W.alloc o) := (Below.refl _ W).alloc (Nat.le_refl _) _
theorem num_any (x : Int) (w : World) : Calls Tryd.prog 12 #[.int .i64 x] w fun e w' => e = .returned (.int .i64 x) ∧ w' = w := by
  go_enter Tryd.func12, Tryd.ntmps12
  go_wp2
  go_ret
  exact ⟨rfl, rfl⟩
set_option maxHeartbeats 4000000 in
set_option maxRecDepth 100000 in
theorem law_back (us uk ui : Int) (uc : ByteArray) (q : Int) (b : ByteArray) (x : Int) (w : World) (ht : Tab w) (hb : b.size < 4611686018427387904) (hc : uc.size ≤ 4611686018427387904) (hk : -9223372036854775808 ≤ uk ∧ uk < 9223372036854775808) (hi : -9223372036854775808 ≤ ui ∧ ui < 9223372036854775808) (hq : -9223372036854775808 ≤ q ∧ q < 9223372036854775808) :
    Calls Tryd.prog 3 #[.agg (uC us uk ui uc), .int .i64 q, .string b, .int .i64 x] w fun e w' => e = .returned (.bool true) ∧ Below w.heap.size w w' := by
  obtain ⟨Q, hQ⟩ : ∃ Q : Nat, q % 1152921504606846976 = Q := ⟨(q % 1152921504606846976).toNat, by omega⟩
  have hQ2 : Q < 1152921504606846976 := by omega
  have c0 := fun W => pick_any q 1152921504606846976 W (by omega) (by omega) hq
  rw [show ((1152921504606846976 : Nat) : Int) = 1152921504606846976 from rfl, hQ] at c0
  have c1 := fun W => goes_any us uk ui uc (1 + Q) W hc hk hi
  obtain ⟨u1, u2, u3⟩ := goU_ok uk ui uc (1 + Q)
  obtain ⟨⟨S, K, I, C⟩, hU⟩ : ∃ U, U = goU uk ui uc (1 + Q) := ⟨_, rfl⟩
  rw [← hU] at c1 u1 u2 u3
  dsimp only at u1 u2 u3
  subst u3
  have hK : K = 1 ∨ K = 2 := by omega
  have hCl : C.length ≤ 8 := by rcases u1 with ⟨_, h⟩ | ⟨_, h⟩; omega; rw [h]; simp
  have hfit : (K = 1 ∧ 8 ≤ C.length ∧ C.length ≤ 128 ∧ C.length % 8 = 0) ∨ (K = 2 ∧ C.length = 0) := by
    rcases u1 with ⟨h1, h2⟩ | ⟨h1, h2⟩
    · left; rw [h2]; exact ⟨h1, by omega⟩
    · right; rw [h2]; exact ⟨h1, rfl⟩
  have hsz : (⟨C.toArray⟩ : ByteArray).size = C.length := by rw [ba_len]
  have e0 : wE ((1 + Q : Nat) : Int) K I (⟨C.toArray⟩ : ByteArray).size = 0 := by rw [hsz]; exact wE_up hK (by omega) u2 hfit
  have e1 : wT ((1 + Q : Nat) : Int) K I ⟨C.toArray⟩ = frL K (upP (1 + Q) I C) := by unfold wT; rw [if_pos e0]; rfl
  have c2 := fun W (h : Tab W) => write_any ((1 + Q : Nat) : Int) K I ⟨C.toArray⟩ W h
  rw [e0, e1] at c2
  have hfl : (frL K (upP (1 + Q) I C)).length ≤ 200 := by rw [frL_len]; have := upP_len (1 + Q) I C; omega
  obtain ⟨T, hT⟩ : ∃ T : ByteArray, T = ⟨(frL K (upP (1 + Q) I C)).toArray⟩ := ⟨_, rfl⟩
  have hTs : T.size ≤ 200 := by rw [hT, ba_len]; exact hfl
  have c3 := fun W (h : Tab W) => read_any T 64 W h (by omega)
  have c4 := fun W (h : Tab W) => read_any T 128 W h (by omega)
  have r3 := read_write (1 + Q) K I C 64 hK (by omega) u2 (by omega) (by decide)
  have r4 := read_write (1 + Q) K I C 128 hK (by omega) u2 (by omega) (by decide)
  rw [← hT] at r3 r4 c2
  have f3 : fitB K C.length 64 = true := by
    rcases u1 with ⟨h1, h2⟩ | ⟨h1, h2⟩
    · rw [h1, h2]; decide
    · rw [h1, h2]; decide
  rw [if_pos f3] at r3
  rw [r3] at c3
  have c5 := fun W (h : Tab W) => read_any b x W h hb
  obtain ⟨E4, hE4, hK4⟩ : ∃ E4 : Up × Int, rdA T 128 = E4 ∧ (E4.2 == 0) = ((K : Int) == 2) := by
    refine ⟨_, r4, ?_⟩
    rcases u1 with ⟨h1, h2⟩ | ⟨h1, h2⟩
    · rw [h1, h2]; rfl
    · rw [h1, h2]; rfl
  rw [hE4] at c4
  clear r3 r4 hE4 f3 e0 e1 hfl u1 hU hQ hq
  rw [show ((1 + Q : Nat) : Int) = 1 + (Q : Int) by omega] at c2
  have HT : Hid _ := hT
  clear hT
  have U0 := UAt.new w us uk ui uc
  have ba : Below w.heap.size w (w.alloc (.cells (uC us uk ui uc) 23)) := (Below.refl _ w).alloc (Nat.le_refl _) _
  have t0 := ht.lat ba
  go_enter Tryd.func3, Tryd.ntmps3
  go_wp2_with fail
  obtain ⟨q0, q1, q2, q3⟩ := U0
  have hwQ : IntKind.i64.wrap (1 + (Q : Int)) = ((1 + Q : Nat) : Int) := by rw [IntKind.wrap_i64]; omega
  obtain ⟨W0, hW0⟩ : ∃ W0, W0 = w.alloc (.cells (uC us uk ui uc) 23) := ⟨_, rfl⟩
  rw [← hW0] at q0 q1 q2 q3 ba t0 ⊢
  clear hW0
  go_region_held (fun w' => Below W0.heap.size W0 w' ∧ w'.cell? ⟨w.heap.size, 0, none⟩ = some (.int .i64 us) ∧ w'.cell? ⟨w.heap.size, 1, none⟩ = some (.int .i64 uk) ∧ w'.cell? ⟨w.heap.size, 2, none⟩ = some (.int .i64 ui) ∧ w'.cell? ⟨w.heap.size, 3, none⟩ = some (.string uc))
    ((refine (fun hb => ⟨hb, cell_lat hb q0, cell_lat hb q1, cell_lat hb q2, cell_lat hb q3⟩) ?_; first | exact b9 | exact b9.alloc b9.size _ | exact (((b9.setCell (p := ⟨_, 0, none⟩) (by first | exact b9.size | simp) _).setCell (p := ⟨_, 1, none⟩) (by first | exact b9.size | simp) _).setCell (p := ⟨_, 2, none⟩) (by first | exact b9.size | simp) _).setCell (p := ⟨_, 3, none⟩) (by first | exact b9.size | simp) _ | exact b_drew W0 | exact (below_al W0 _).drew | exact b9.alloc b9.size _))
    (first
      | (go_at_call 9; refine (c0 _).mono ?_; rintro e w' ⟨rfl, rfl⟩; clear c0)
      | (go_at_call 8; refine (c1 _).mono ?_; rintro e w1 ⟨rfl, b1⟩; clear c1; first | (have b9 : Below W0.heap.size W0 w1 := below_d b1) | (have b9 : Below W0.heap.size W0 w1 := chain (below_al W0 _) (below_d b1) (Nat.le_refl _); obtain ⟨r0, r1, r2, r3⟩ := (UAt.new W0 0 0 0 ⟨#[]⟩).below (below_d b1) (by simp); obtain ⟨f0, f1, f2, f3⟩ := (UFr.new W0 0 0 0 ⟨#[]⟩).below (below_d b1) (by simp)))
      )
  all_goals
    rename_i hH
    have b10 := hH.1
    clear hH
    have tt := t0.lat b10
    have bb := chain ba b10 (Nat.le_refl _)
    first
      | (have xx := UAt.set (s' := 1 + (Q : Int)) (k' := K) (i' := I) (c' := ⟨C.toArray⟩) (UAt.mk r0 r1 r2 r3)
         clear b10 b9 b1 ba q0 q1 q2 q3 ht t0 hc hk hi r0 r1 r2 r3 f0 f1 f2 f3
         generalize W0.heap.size = g9 at xx bb tt ⊢)
      | (have xx := UAt.new w1 (1 + (Q : Int)) K I ⟨C.toArray⟩
         clear b10 b9 b1 ba q0 q1 q2 q3 ht t0 hc hk hi
         generalize w1.heap.size = g9 at xx ⊢)
    obtain ⟨z0, z1, z2, z3⟩ := xx
    have xx := UAt.mk z0 z1 z2 z3
    go_wp2_with first
      | (go_at_call 10; refine (c2 _ tt).mono ?_; rintro e w2 ⟨rfl, b2⟩; clear c2; have tt := tt.lat b2; have xx := xx.later b2; have bb := chain bb b2 (Nat.le_refl _); clear b2)
      | (go_at_call 11; refine (c3 _ tt).mono ?_; rintro e w3 ⟨rfl, b3⟩; clear c3; have tt := tt.lat b3; have xx := xx.later b3; have bb := chain bb b3 (Nat.le_refl _); clear b3; have yy := UAt.new w3 (1 + (Q : Int)) K I ⟨C.toArray⟩; have xx := xx.later (below_al w3 (.cells (uC (1 + (Q : Int)) K I ⟨C.toArray⟩) 23)); have tt := tt.lat (below_al w3 (.cells (uC (1 + (Q : Int)) K I ⟨C.toArray⟩) 23)); have bb := chain bb (below_al w3 (.cells (uC (1 + (Q : Int)) K I ⟨C.toArray⟩) 23)) (Nat.le_refl _))
      | (go_at_call 11; refine (c4 _ tt).mono ?_; rintro e w4 ⟨rfl, b4⟩; clear c4; have ba4 := below_al w4 (.cells (upV E4.1) 23); have tt := (tt.lat b4).lat ba4; obtain ⟨x0, x1, x2, x3⟩ := (xx.later b4).later ba4; obtain ⟨y0, y1, y2, y3⟩ := (yy.later b4).later ba4; have bb := chain (chain bb b4 (Nat.le_refl _)) ba4 (Nat.le_refl _); clear b4 ba4 xx yy)
      | (go_at_call 12; refine (num_any _ _).mono ?_; rintro e w' ⟨rfl, rfl⟩)
    go_region_held (fun w' => w'.cell? ⟨g9, 0, none⟩ = some (.int .i64 (1 + (Q : Int))) ∧ w'.cell? ⟨g9, 1, none⟩ = some (.int .i64 K) ∧ w'.cell? ⟨g9, 2, none⟩ = some (.int .i64 I) ∧ w'.cell? ⟨g9, 3, none⟩ = some (.string ⟨C.toArray⟩) ∧ w'.cell? ⟨w3.heap.size, 0, none⟩ = some (.int .i64 (1 + (Q : Int))) ∧ w'.cell? ⟨w3.heap.size, 1, none⟩ = some (.int .i64 K) ∧ w'.cell? ⟨w3.heap.size, 2, none⟩ = some (.int .i64 I) ∧ w'.cell? ⟨w3.heap.size, 3, none⟩ = some (.string ⟨C.toArray⟩)) (exact ⟨x0, x1, x2, x3, y0, y1, y2, y3⟩)
      ((go_at_call 12; refine (num_any _ _).mono ?_; rintro e w' ⟨rfl, rfl⟩))
    rename_i hH
    clear hH x0 x1 x2 x3 y0 y1 y2 y3 z0 z1 z2 z3
    have tt := tt.lat (b_drew _)
    have bb := chain bb (b_drew _) (Nat.le_refl _)
    by_cases hH : (rdA b x).2 = 0
    · obtain ⟨zs, zk, zi, zc, eR, hzk, hzs, hzi, hzf, hW, hbl⟩ := read_only b x hH
      rw [eR] at c5
      obtain ⟨hzn, hz8⟩ := fit_n hzk hW hzf
      have hx := isW_bd hW
      have hz2 : (⟨zc.toArray⟩ : ByteArray).size = zc.length := by rw [ba_len]
      have e0 : wE (zs : Int) zk zi (⟨zc.toArray⟩ : ByteArray).size = 0 := by rw [hz2]; exact wE_up hzk hzs hzi hzn
      have c6 := fun W (h : Tab W) => write_any zs zk zi ⟨zc.toArray⟩ W h
      have e1 : (⟨(wT zs zk zi ⟨zc.toArray⟩).toArray⟩ : ByteArray) = b := by
        apply ba_ext
        unfold wT; rw [if_pos e0, hbl]; rfl
      rw [e1, e0] at c6
      have hfin : ((zk : Int) == 2 || (zc.length : Int) == x / 8) = true := by
        rcases hzk with h | h
        · rw [hz8 h]; simp
        · rw [h]; rfl
      have HF : Hid _ := hfin
      clear e0 e1 hbl eR hH hzf hfin
      go_wp2_with first
        | (go_at_call 11; refine (c5 _ tt).mono ?_; rintro e w5 ⟨rfl, b5⟩; clear c5; have b5 := chain b5 (below_al w5 (.cells (uC zs zk zi ⟨zc.toArray⟩) 23)) (Nat.le_refl _); have tt := tt.lat b5; have bb := chain bb b5 (Nat.le_refl _); have zz := UAt.new w5 zs zk zi ⟨zc.toArray⟩; clear b5)
        | (go_at_call 12; refine (num_any _ _).mono ?_; rintro e w' ⟨rfl, rfl⟩)
        | (go_at_call 10; refine (c6 _ tt).mono ?_; rintro e w6 ⟨rfl, b6⟩; clear c6; have bb := chain bb b6 (Nat.le_refl _); obtain ⟨z0, z1, z2, z3⟩ := zz.later b6)
      all_goals
        go_ret
        first
          | exact ⟨rfl, bb⟩
          | exact ⟨ret_bool HF.out, bb⟩
          | exact ⟨rfl, bb.alloc bb.size _⟩
          | exact ⟨rfl, chain bb (below_al _ _) (Nat.le_refl _)⟩
          | exact ⟨rfl, (chain bb (below_al _ _) (Nat.le_refl _)).drew⟩
    · have e := read_no b x hH
      obtain ⟨R, hR⟩ : ∃ R, R = rdA b x := ⟨_, rfl⟩
      rw [← hR] at hH e c5
      obtain ⟨R1, R2⟩ := R
      dsimp only at hH e c5
      subst e
      clear hR
      go_wp2_with first
        | (go_at_call 11; refine (c5 _ tt).mono ?_; rintro e w5 ⟨rfl, b5⟩; clear c5; have bb := chain bb b5 (Nat.le_refl _))
        | (go_at_call 12; refine (num_any _ _).mono ?_; rintro e w' ⟨rfl, rfl⟩)
      all_goals
        go_ret
        first
          | exact ⟨rfl, bb⟩
          | exact ⟨ret_bool HF.out, bb⟩
          | exact ⟨rfl, bb.alloc bb.size _⟩
          | exact ⟨rfl, chain bb (below_al _ _) (Nat.le_refl _)⟩
          | exact ⟨rfl, (chain bb (below_al _ _) (Nat.le_refl _)).drew⟩
end Go.Proofs.YtbfgnfnihnmjbaaDoor
