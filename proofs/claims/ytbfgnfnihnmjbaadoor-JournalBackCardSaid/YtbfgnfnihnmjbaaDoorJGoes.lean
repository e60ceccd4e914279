/-
  DERIVED. The laws' own updates: pick, code, goes.
-/
import Derived.Test.YtbfgnfnihnmjbaaDoorJMath
import Derived.Deep.RegionHeld
set_option linter.unusedVariables false
set_option linter.unusedSimpArgs false
namespace Go.Proofs.YtbfgnfnihnmjbaaDoor
open Go.RowKit Go.Proofs.SealMath
theorem tmod_gt (k : Int) (n : Nat) (hn : 1 ≤ n) : -(n : Int) < k.tmod n := by
  have h : (-k).tmod n < n := Int.tmod_lt_of_pos _ (by omega)
  rw [Int.neg_tmod] at h
  omega
set_option maxHeartbeats 1000000 in
set_option maxRecDepth 100000 in
theorem pick_any (k : Int) (n : Nat) (w : World) (hn : 1 ≤ n) (hn2 : n ≤ 1152921504606846976) (hk : -9223372036854775808 ≤ k ∧ k < 9223372036854775808) :
    Calls Tryd.prog 9 #[.int .i64 k, .int .i64 n] w fun e w' => e = .returned (.int .i64 (k % (n : Int))) ∧ w' = w := by
  have hm : k % (n : Int) = if k.tmod n < 0 then k.tmod n + n else k.tmod n := by
    have h1 := Int.tmod_add_mul_tdiv k n
    have h2 := Int.emod_emod_of_dvd k (Int.dvd_refl (n : Int))
    have hn0 : (0 : Int) < n := by omega
    have h3 : k.tmod n % n = k % n := by
      have : k % n = (k.tmod n + n * k.tdiv n) % n := by rw [h1]
      rw [this, Int.add_mul_emod_self_left]
    have h4 : -(n : Int) < k.tmod n := tmod_gt k n hn
    have h5 : k.tmod n < n := Int.tmod_lt_of_pos k hn0
    split
    · have h6 : (k.tmod n + n) % n = k.tmod n % n := by rw [Int.add_emod, Int.emod_self, Int.add_zero, Int.emod_emod_of_dvd _ (Int.dvd_refl _)]
      rw [← h3, ← h6]
      exact Int.emod_eq_of_lt (by omega) (by omega)
    · rw [← h3]
      exact Int.emod_eq_of_lt (by omega) h5
  go_enter Tryd.func9, Tryd.ntmps9
  go_wp2
  · go_ret
    have h4 : -(n : Int) < k.tmod n := tmod_gt k n hn
    rw [if_pos ‹_›] at hm
    exact ⟨ret_int (by rw [hm]; unfold wrap64; omega), rfl⟩
  · go_ret
    rw [if_neg (by omega)] at hm
    exact ⟨ret_int hm.symm, rfl⟩
theorem ext_sub0 (b : ByteArray) (c : Nat) : (b.extract 0 c).data.toList = b.data.toList.take c := by
  rw [ByteArray.data_extract, Array.toList_extract]
  simp [List.extract]
/-- Eight bytes of any text. -/
def codeL (c : ByteArray) : List UInt8 := (c.data.toList ++ List.replicate 8 0).take 8
theorem codeL_len (c : ByteArray) : (codeL c).length = 8 := by simp [codeL]
set_option maxHeartbeats 1000000 in
set_option maxRecDepth 100000 in
theorem code_any (c : ByteArray) (w : World) (hc : c.size ≤ 4611686018427387904) :
    Calls Tryd.prog 27 #[.string c] w fun e w' => e = .returned (.string ⟨(codeL c).toArray⟩) ∧ w' = w := by
  go_enter Tryd.func27, Tryd.ntmps27
  go_wp2
  go_ret
  refine ⟨congrArg (fun x => Ending.returned (Value.string x)) (ba_ext ?_), rfl⟩
  rw [ext_sub0]
  simp [codeL]
/-- An update that goes. -/
def goU (k i : Int) (c : ByteArray) (s : Nat) : Up := ⟨s, (1 + k % 2).toNat, (i % 281474976710657).toNat, if k % 2 = 0 then codeL c else []⟩
theorem two_new (w1 : World) (s k i : Int) : ∃ W, W = ((w1.alloc (.cells (uC 0 0 0 ⟨#[]⟩) 23)).alloc (.cells (uC s k i ⟨#[]⟩) 23)).drew ∧ UAt W w1.heap.size 0 0 0 ⟨#[]⟩ ∧ UFr W w1.heap.size ∧ UAt W (w1.heap.size + 1) s k i ⟨#[]⟩ ∧ UFr W (w1.heap.size + 1) ∧ Below w1.heap.size w1 W := by
  have b0 : Below w1.heap.size w1 (w1.alloc (.cells (uC 0 0 0 ⟨#[]⟩) 23)) := (Below.refl _ _).alloc (Nat.le_refl _) _
  have b1 : Below (w1.alloc (.cells (uC 0 0 0 ⟨#[]⟩) 23)).heap.size (w1.alloc (.cells (uC 0 0 0 ⟨#[]⟩) 23)) ((w1.alloc (.cells (uC 0 0 0 ⟨#[]⟩) 23)).alloc (.cells (uC s k i ⟨#[]⟩) 23)).drew := ((Below.refl _ _).alloc (Nat.le_refl _) _).drew
  have b2 := b_drew ((w1.alloc (.cells (uC 0 0 0 ⟨#[]⟩) 23)).alloc (.cells (uC s k i ⟨#[]⟩) 23))
  have u := UAt.new (w1.alloc (.cells (uC 0 0 0 ⟨#[]⟩) 23)) s k i ⟨#[]⟩
  have f := UFr.new (w1.alloc (.cells (uC 0 0 0 ⟨#[]⟩) 23)) s k i ⟨#[]⟩
  rw [World.size_alloc] at u f
  refine ⟨_, rfl, (UAt.new w1 0 0 0 ⟨#[]⟩).below b1 (by simp), (UFr.new w1 0 0 0 ⟨#[]⟩).below b1 (by simp), u.below b2 (by simp), f.below b2 (by simp), chain b0 b1 (Nat.le_refl _)⟩
set_option maxHeartbeats 1000000 in
set_option maxRecDepth 100000 in
theorem goes_0 (s0 k i : Int) (c : ByteArray) (s : Nat) (w : World) (hc : c.size ≤ 4611686018427387904) (hk : -9223372036854775808 ≤ k ∧ k < 9223372036854775808) (hi : -9223372036854775808 ≤ i ∧ i < 9223372036854775808) (hK : k % 2 = 0) (I : Nat) (hI : i % 281474976710657 = I) :
    Calls Tryd.prog 8 #[.agg (uC s0 k i c), .int .i64 s] w fun e w' => e = .returned (.agg (upV ⟨s, 1, I, codeL c⟩)) ∧ Below w.heap.size w w' := by
  have h1 : 0 ≤ i % 281474976710657 ∧ i % 281474976710657 < 281474976710657 := by omega
  have c1 := fun W => pick_any k 2 W (by omega) (by omega) hk
  have c2 := fun W => pick_any i 281474976710657 W (by omega) (by omega) hi
  have c3 := fun W => code_any c W hc
  rw [show ((2 : Nat) : Int) = 2 from rfl, hK] at c1
  rw [show ((281474976710657 : Nat) : Int) = 281474976710657 from rfl, hI] at c2
  rw [hI] at h1
  clear hK hI
  go_enter Tryd.func8, Tryd.ntmps8
  go_wp2_with fail
  obtain ⟨q0, q1, q2, q3⟩ := UAt.new w s0 k i c
  have ba : Below w.heap.size w (w.alloc (.cells (uC s0 k i c) 23)) := (Below.refl _ w).alloc (Nat.le_refl _) _
  have hs1 : (w.alloc (.cells (uC s0 k i c) 23)).heap.size = w.heap.size + 1 := by simp
  have hwk : IntKind.i64.wrap 1 = 1 := by rw [IntKind.wrap_i64]; omega
  obtain ⟨w1, hw1⟩ : ∃ w1, w1 = w.alloc (.cells (uC s0 k i c) 23) := ⟨_, rfl⟩
  rw [← hw1] at q0 q1 q2 q3 ba hs1 ⊢
  clear hw1
  rw [← hs1]
  go_region_held (fun w' => w'.cell? ⟨w.heap.size, 1, none⟩ = some (.int .i64 k) ∧ w'.cell? ⟨w.heap.size, 2, none⟩ = some (.int .i64 i) ∧ w'.cell? ⟨w.heap.size, 3, none⟩ = some (.string c)) (go_keep)
    (first
      | (go_at_call 9; refine (c1 _).mono ?_; rintro e w' ⟨rfl, rfl⟩; clear c1)
      | (go_at_call 9; refine (c2 _).mono ?_; rintro e w' ⟨rfl, rfl⟩; clear c2))
  all_goals
    rename_i hH
    have c9 := hH.2.2
    clear hH
    try clear c1
    try clear c2
    obtain ⟨W, hW, UR, FR, UX, FX, bX⟩ := two_new w1 s 1 I
    have bW := chain ba bX (by omega)
    rw [hs1] at UR FR UX FX
    clear bX q0 q1 q2 q3 ba
    try rw [hwk] at c9
    try rw [hwk]
    rw [← hW] at c9 ⊢
    clear hW hs1 hk hi hc w1
    obtain ⟨r0, r1, r2, r3⟩ := UR
    obtain ⟨f0, f1, f2, f3⟩ := FR
    obtain ⟨x0, x1, x2, x3⟩ := UX
    obtain ⟨g0, g1, g2, g3⟩ := FX
    go_wp2_with (go_at_call 27; refine (c3 _).mono ?_; rintro e w' ⟨rfl, rfl⟩; clear c3)
    refine bodyPost_ret (v := .agg (uC s 1 I ⟨(codeL c).toArray⟩)) (by simp [results, Tryd.results8, go_sem, r0, r1, r2, r3, x0, x1, x2, x3]; try rfl) rfl ?_
    exact ⟨rfl, (((((bW.setCell (p := ⟨w.heap.size + 1 + 1, 3, none⟩) (by simp; omega) _).setCell (p := ⟨w.heap.size + 1, 0, none⟩) (by simp) _).setCell (p := ⟨w.heap.size + 1, 1, none⟩) (by simp) _).setCell (p := ⟨w.heap.size + 1, 2, none⟩) (by simp) _).setCell (p := ⟨w.heap.size + 1, 3, none⟩) (by simp) _)⟩
set_option maxHeartbeats 1000000 in
set_option maxRecDepth 100000 in
theorem goes_1 (s0 k i : Int) (c : ByteArray) (s : Nat) (w : World) (hc : c.size ≤ 4611686018427387904) (hk : -9223372036854775808 ≤ k ∧ k < 9223372036854775808) (hi : -9223372036854775808 ≤ i ∧ i < 9223372036854775808) (hK : k % 2 = 1) (I : Nat) (hI : i % 281474976710657 = I) :
    Calls Tryd.prog 8 #[.agg (uC s0 k i c), .int .i64 s] w fun e w' => e = .returned (.agg (upV ⟨s, 2, I, []⟩)) ∧ Below w.heap.size w w' := by
  have h1 : 0 ≤ i % 281474976710657 ∧ i % 281474976710657 < 281474976710657 := by omega
  have c1 := fun W => pick_any k 2 W (by omega) (by omega) hk
  have c2 := fun W => pick_any i 281474976710657 W (by omega) (by omega) hi
  have c3 := fun W => code_any c W hc
  rw [show ((2 : Nat) : Int) = 2 from rfl, hK] at c1
  rw [show ((281474976710657 : Nat) : Int) = 281474976710657 from rfl, hI] at c2
  rw [hI] at h1
  clear hK hI
  go_enter Tryd.func8, Tryd.ntmps8
  go_wp2_with fail
  obtain ⟨q0, q1, q2, q3⟩ := UAt.new w s0 k i c
  have ba : Below w.heap.size w (w.alloc (.cells (uC s0 k i c) 23)) := (Below.refl _ w).alloc (Nat.le_refl _) _
  have hs1 : (w.alloc (.cells (uC s0 k i c) 23)).heap.size = w.heap.size + 1 := by simp
  have hwk : IntKind.i64.wrap 2 = 2 := by rw [IntKind.wrap_i64]; omega
  obtain ⟨w1, hw1⟩ : ∃ w1, w1 = w.alloc (.cells (uC s0 k i c) 23) := ⟨_, rfl⟩
  rw [← hw1] at q0 q1 q2 q3 ba hs1 ⊢
  clear hw1
  rw [← hs1]
  go_region_held (fun w' => w'.cell? ⟨w.heap.size, 1, none⟩ = some (.int .i64 k) ∧ w'.cell? ⟨w.heap.size, 2, none⟩ = some (.int .i64 i) ∧ w'.cell? ⟨w.heap.size, 3, none⟩ = some (.string c)) (go_keep)
    (first
      | (go_at_call 9; refine (c1 _).mono ?_; rintro e w' ⟨rfl, rfl⟩; clear c1)
      | (go_at_call 9; refine (c2 _).mono ?_; rintro e w' ⟨rfl, rfl⟩; clear c2))
  all_goals
    rename_i hH
    have c9 := hH.2.2
    clear hH
    try clear c1
    try clear c2
    obtain ⟨W, hW, UR, FR, UX, FX, bX⟩ := two_new w1 s 2 I
    have bW := chain ba bX (by omega)
    rw [hs1] at UR FR UX FX
    clear bX q0 q1 q2 q3 ba
    try rw [hwk] at c9
    try rw [hwk]
    rw [← hW] at c9 ⊢
    clear hW hs1 hk hi hc w1
    obtain ⟨r0, r1, r2, r3⟩ := UR
    obtain ⟨f0, f1, f2, f3⟩ := FR
    obtain ⟨x0, x1, x2, x3⟩ := UX
    obtain ⟨g0, g1, g2, g3⟩ := FX
    go_wp2_with fail
    refine bodyPost_ret (v := .agg (uC s 2 I ⟨#[]⟩)) (by simp [results, Tryd.results8, go_sem, r0, r1, r2, r3, x0, x1, x2, x3]; try rfl) rfl ?_
    exact ⟨rfl, ((((bW.setCell (p := ⟨w.heap.size + 1, 0, none⟩) (by simp) _).setCell (p := ⟨w.heap.size + 1, 1, none⟩) (by simp) _).setCell (p := ⟨w.heap.size + 1, 2, none⟩) (by simp) _).setCell (p := ⟨w.heap.size + 1, 3, none⟩) (by simp) _)⟩
theorem goes_any (s0 k i : Int) (c : ByteArray) (s : Nat) (w : World) (hc : c.size ≤ 4611686018427387904) (hk : -9223372036854775808 ≤ k ∧ k < 9223372036854775808) (hi : -9223372036854775808 ≤ i ∧ i < 9223372036854775808) :
    Calls Tryd.prog 8 #[.agg (uC s0 k i c), .int .i64 s] w fun e w' => e = .returned (.agg (upV (goU k i c s))) ∧ Below w.heap.size w w' := by
  have h2 : k % 2 = 0 ∨ k % 2 = 1 := by omega
  obtain ⟨I, hI⟩ : ∃ I : Nat, i % 281474976710657 = I := ⟨(i % 281474976710657).toNat, by omega⟩
  rcases h2 with h | h
  · have e : goU k i c s = ⟨s, 1, I, codeL c⟩ := by unfold goU; rw [h, hI]; rfl
    rw [e]; exact goes_0 s0 k i c s w hc hk hi h I hI
  · have e : goU k i c s = ⟨s, 2, I, []⟩ := by unfold goU; rw [h, hI]; rfl
    rw [e]; exact goes_1 s0 k i c s w hc hk hi h I hI
end Go.Proofs.YtbfgnfnihnmjbaaDoor
