/-
  DERIVED. JGoes, JForM, as one text.
-/
import Derived.Test.YtfijjlkhgelmoaaGreatDoorTzAO
import Derived.Deep.RegionHeld
set_option linter.unusedVariables false
set_option linter.unusedSimpArgs false
namespace Go.Proofs.YtfijjlkhgelmoaaGreatDoor
open Go.RowKit Go.Proofs.SealMath
theorem tmod_gt (k : Int) (n : Nat) (hn : 1 ≤ n) : -(n : Int) < k.tmod n := by
  have h : (-k).tmod n < n := Int.tmod_lt_of_pos _ (by omega)
  rw [Int.neg_tmod] at h
  omega
set_option maxHeartbeats 1000000 in
set_option maxRecDepth 100000 in
theorem pick_any (k : Int) (n : Nat) (w : World) (hn : 1 ≤ n) (hn2 : n ≤ 1152921504606846976) (hk : -9223372036854775808 ≤ k ∧ k < 9223372036854775808) :
    Calls Tryz.prog 7 #[.int .i64 k, .int .i64 n] w fun e w' => e = .returned (.int .i64 (k % (n : Int))) ∧ w' = w := by
  have hm : k % (n : Int) = if k.tmod n < 0 then k.tmod n + n else k.tmod n := by
    have h1 := Int.tmod_add_mul_tdiv k n
    have h2 := Int.emod_emod_of_dvd k (Int.dvd_refl (n : Int))
    have hn0 : (0 : Int) < n := by omega
    have h3 : k.tmod n % n = k % n := by
      have : k % n = (k.tmod n + n * k.tdiv n) % n := by rw [h1]
      rw [this, Int.add_mul_emod_self_left]
    have h4 : -(n : Int) < k.tmod n := tmod_gt k n hn
    have h5 : k.tmod n < n := Int.tmod_lt_of_pos k hn0
    split
    · have h6 : (k.tmod n + n) % n = k.tmod n % n := by rw [Int.add_emod, Int.emod_self, Int.add_zero, Int.emod_emod_of_dvd _ (Int.dvd_refl _)]
      rw [← h3, ← h6]
      exact Int.emod_eq_of_lt (by omega) (by omega)
    · rw [← h3]
      exact Int.emod_eq_of_lt (by omega) h5
  go_enter Tryz.func7, Tryz.ntmps7
  go_wp2
  · go_ret
    have h4 : -(n : Int) < k.tmod n := tmod_gt k n hn
    rw [if_pos ‹_›] at hm
    exact ⟨ret_int (by rw [hm]; unfold wrap64; omega), rfl⟩
  · go_ret
    rw [if_neg (by omega)] at hm
    exact ⟨ret_int hm.symm, rfl⟩
theorem ext_sub0 (b : ByteArray) (c : Nat) : (b.extract 0 c).data.toList = b.data.toList.take c := by
  rw [ByteArray.data_extract, Array.toList_extract]
  simp [List.extract]
/-- Eight bytes of any text. -/
def codeL (c : ByteArray) : List UInt8 := (c.data.toList ++ List.replicate 8 0).take 8
theorem codeL_len (c : ByteArray) : (codeL c).length = 8 := by simp [codeL]
set_option maxHeartbeats 1000000 in
set_option maxRecDepth 100000 in
theorem code_any (c : ByteArray) (w : World) (hc : c.size ≤ 4611686018427387904) :
    Calls Tryz.prog 24 #[.string c] w fun e w' => e = .returned (.string ⟨(codeL c).toArray⟩) ∧ w' = w := by
  go_enter Tryz.func24, Tryz.ntmps24
  go_wp2
  go_ret
  refine ⟨congrArg (fun x => Ending.returned (Value.string x)) (ba_ext ?_), rfl⟩
  rw [ext_sub0]
  simp [codeL]
/-- An update that goes. -/
def goU (k i : Int) (c : ByteArray) (s : Nat) : Up := ⟨s, (1 + k % 2).toNat, (i % 281474976710657).toNat, if k % 2 = 0 then codeL c else []⟩
theorem two_new (w1 : World) (s k i : Int) : ∃ W, W = ((w1.alloc (.cells (uC 0 0 0 ⟨#[]⟩) 30)).alloc (.cells (uC s k i ⟨#[]⟩) 30)).drew ∧ UAt W w1.heap.size 0 0 0 ⟨#[]⟩ ∧ UFr W w1.heap.size ∧ UAt W (w1.heap.size + 1) s k i ⟨#[]⟩ ∧ UFr W (w1.heap.size + 1) ∧ Below w1.heap.size w1 W := by
  have b0 : Below w1.heap.size w1 (w1.alloc (.cells (uC 0 0 0 ⟨#[]⟩) 30)) := (Below.refl _ _).alloc (Nat.le_refl _) _
  have b1 : Below (w1.alloc (.cells (uC 0 0 0 ⟨#[]⟩) 30)).heap.size (w1.alloc (.cells (uC 0 0 0 ⟨#[]⟩) 30)) ((w1.alloc (.cells (uC 0 0 0 ⟨#[]⟩) 30)).alloc (.cells (uC s k i ⟨#[]⟩) 30)).drew := ((Below.refl _ _).alloc (Nat.le_refl _) _).drew
  have b2 := b_drew ((w1.alloc (.cells (uC 0 0 0 ⟨#[]⟩) 30)).alloc (.cells (uC s k i ⟨#[]⟩) 30))
  have u := UAt.new (w1.alloc (.cells (uC 0 0 0 ⟨#[]⟩) 30)) s k i ⟨#[]⟩
  have f := UFr.new (w1.alloc (.cells (uC 0 0 0 ⟨#[]⟩) 30)) s k i ⟨#[]⟩
  rw [World.size_alloc] at u f
  refine ⟨_, rfl, (UAt.new w1 0 0 0 ⟨#[]⟩).below b1 (by simp), (UFr.new w1 0 0 0 ⟨#[]⟩).below b1 (by simp), u.below b2 (by simp), f.below b2 (by simp), chain b0 b1 (Nat.le_refl _)⟩
set_option maxHeartbeats 1000000 in
set_option maxRecDepth 100000 in
theorem goes_0 (s0 k i : Int) (c : ByteArray) (s : Nat) (w : World) (hc : c.size ≤ 4611686018427387904) (hk : -9223372036854775808 ≤ k ∧ k < 9223372036854775808) (hi : -9223372036854775808 ≤ i ∧ i < 9223372036854775808) (hK : k % 2 = 0) (I : Nat) (hI : i % 281474976710657 = I) :
    Calls Tryz.prog 8 #[.agg (uC s0 k i c), .int .i64 s] w fun e w' => e = .returned (.agg (upV ⟨s, 1, I, codeL c⟩)) ∧ Below w.heap.size w w' := by
  have h1 : 0 ≤ i % 281474976710657 ∧ i % 281474976710657 < 281474976710657 := by omega
  have c1 := fun W => pick_any k 2 W (by omega) (by omega) hk
  have c2 := fun W => pick_any i 281474976710657 W (by omega) (by omega) hi
  have c3 := fun W => code_any c W hc
  rw [show ((2 : Nat) : Int) = 2 from rfl, hK] at c1
  rw [show ((281474976710657 : Nat) : Int) = 281474976710657 from rfl, hI] at c2
  rw [hI] at h1
  clear hK hI
  go_enter Tryz.func8, Tryz.ntmps8
  go_wp2_with fail
  obtain ⟨q0, q1, q2, q3⟩ := UAt.new w s0 k i c
  have ba : Below w.heap.size w (w.alloc (.cells (uC s0 k i c) 30)) := (Below.refl _ w).alloc (Nat.le_refl _) _
  have hs1 : (w.alloc (.cells (uC s0 k i c) 30)).heap.size = w.heap.size + 1 := by simp
  have hwk : IntKind.i64.wrap 1 = 1 := by rw [IntKind.wrap_i64]; omega
  obtain ⟨w1, hw1⟩ : ∃ w1, w1 = w.alloc (.cells (uC s0 k i c) 30) := ⟨_, rfl⟩
  rw [← hw1] at q0 q1 q2 q3 ba hs1 ⊢
  clear hw1
  rw [← hs1]
  go_region_held (fun w' => w'.cell? ⟨w.heap.size, 1, none⟩ = some (.int .i64 k) ∧ w'.cell? ⟨w.heap.size, 2, none⟩ = some (.int .i64 i) ∧ w'.cell? ⟨w.heap.size, 3, none⟩ = some (.string c)) (go_keep)
    (first
      | (go_at_call 7; refine (c1 _).mono ?_; rintro e w' ⟨rfl, rfl⟩; clear c1)
      | (go_at_call 7; refine (c2 _).mono ?_; rintro e w' ⟨rfl, rfl⟩; clear c2))
  all_goals
    rename_i hH
    have c9 := hH.2.2
    clear hH
    try clear c1
    try clear c2
    obtain ⟨W, hW, UR, FR, UX, FX, bX⟩ := two_new w1 s 1 I
    have bW := chain ba bX (by omega)
    rw [hs1] at UR FR UX FX
    clear bX q0 q1 q2 q3 ba
    try rw [hwk] at c9
    try rw [hwk]
    rw [← hW] at c9 ⊢
    clear hW hs1 hk hi hc w1
    obtain ⟨r0, r1, r2, r3⟩ := UR
    obtain ⟨f0, f1, f2, f3⟩ := FR
    obtain ⟨x0, x1, x2, x3⟩ := UX
    obtain ⟨g0, g1, g2, g3⟩ := FX
    go_wp2_with (go_at_call 24; refine (c3 _).mono ?_; rintro e w' ⟨rfl, rfl⟩; clear c3)
    refine bodyPost_ret (v := .agg (uC s 1 I ⟨(codeL c).toArray⟩)) (by simp [results, Tryz.results8, go_sem, r0, r1, r2, r3, x0, x1, x2, x3]; try rfl) rfl ?_
    exact ⟨rfl, (((((bW.setCell (p := ⟨w.heap.size + 1 + 1, 3, none⟩) (by simp; omega) _).setCell (p := ⟨w.heap.size + 1, 0, none⟩) (by simp) _).setCell (p := ⟨w.heap.size + 1, 1, none⟩) (by simp) _).setCell (p := ⟨w.heap.size + 1, 2, none⟩) (by simp) _).setCell (p := ⟨w.heap.size + 1, 3, none⟩) (by simp) _)⟩
set_option maxHeartbeats 1000000 in
set_option maxRecDepth 100000 in
theorem goes_1 (s0 k i : Int) (c : ByteArray) (s : Nat) (w : World) (hc : c.size ≤ 4611686018427387904) (hk : -9223372036854775808 ≤ k ∧ k < 9223372036854775808) (hi : -9223372036854775808 ≤ i ∧ i < 9223372036854775808) (hK : k % 2 = 1) (I : Nat) (hI : i % 281474976710657 = I) :
    Calls Tryz.prog 8 #[.agg (uC s0 k i c), .int .i64 s] w fun e w' => e = .returned (.agg (upV ⟨s, 2, I, []⟩)) ∧ Below w.heap.size w w' := by
  have h1 : 0 ≤ i % 281474976710657 ∧ i % 281474976710657 < 281474976710657 := by omega
  have c1 := fun W => pick_any k 2 W (by omega) (by omega) hk
  have c2 := fun W => pick_any i 281474976710657 W (by omega) (by omega) hi
  have c3 := fun W => code_any c W hc
  rw [show ((2 : Nat) : Int) = 2 from rfl, hK] at c1
  rw [show ((281474976710657 : Nat) : Int) = 281474976710657 from rfl, hI] at c2
  rw [hI] at h1
  clear hK hI
  go_enter Tryz.func8, Tryz.ntmps8
  go_wp2_with fail
  obtain ⟨q0, q1, q2, q3⟩ := UAt.new w s0 k i c
  have ba : Below w.heap.size w (w.alloc (.cells (uC s0 k i c) 30)) := (Below.refl _ w).alloc (Nat.le_refl _) _
  have hs1 : (w.alloc (.cells (uC s0 k i c) 30)).heap.size = w.heap.size + 1 := by simp
  have hwk : IntKind.i64.wrap 2 = 2 := by rw [IntKind.wrap_i64]; omega
  obtain ⟨w1, hw1⟩ : ∃ w1, w1 = w.alloc (.cells (uC s0 k i c) 30) := ⟨_, rfl⟩
  rw [← hw1] at q0 q1 q2 q3 ba hs1 ⊢
  clear hw1
  rw [← hs1]
  go_region_held (fun w' => w'.cell? ⟨w.heap.size, 1, none⟩ = some (.int .i64 k) ∧ w'.cell? ⟨w.heap.size, 2, none⟩ = some (.int .i64 i) ∧ w'.cell? ⟨w.heap.size, 3, none⟩ = some (.string c)) (go_keep)
    (first
      | (go_at_call 7; refine (c1 _).mono ?_; rintro e w' ⟨rfl, rfl⟩; clear c1)
      | (go_at_call 7; refine (c2 _).mono ?_; rintro e w' ⟨rfl, rfl⟩; clear c2))
  all_goals
    rename_i hH
    have c9 := hH.2.2
    clear hH
    try clear c1
    try clear c2
    obtain ⟨W, hW, UR, FR, UX, FX, bX⟩ := two_new w1 s 2 I
    have bW := chain ba bX (by omega)
    rw [hs1] at UR FR UX FX
    clear bX q0 q1 q2 q3 ba
    try rw [hwk] at c9
    try rw [hwk]
    rw [← hW] at c9 ⊢
    clear hW hs1 hk hi hc w1
    obtain ⟨r0, r1, r2, r3⟩ := UR
    obtain ⟨f0, f1, f2, f3⟩ := FR
    obtain ⟨x0, x1, x2, x3⟩ := UX
    obtain ⟨g0, g1, g2, g3⟩ := FX
    go_wp2_with fail
    refine bodyPost_ret (v := .agg (uC s 2 I ⟨#[]⟩)) (by simp [results, Tryz.results8, go_sem, r0, r1, r2, r3, x0, x1, x2, x3]; try rfl) rfl ?_
    exact ⟨rfl, ((((bW.setCell (p := ⟨w.heap.size + 1, 0, none⟩) (by simp) _).setCell (p := ⟨w.heap.size + 1, 1, none⟩) (by simp) _).setCell (p := ⟨w.heap.size + 1, 2, none⟩) (by simp) _).setCell (p := ⟨w.heap.size + 1, 3, none⟩) (by simp) _)⟩
theorem goes_any (s0 k i : Int) (c : ByteArray) (s : Nat) (w : World) (hc : c.size ≤ 4611686018427387904) (hk : -9223372036854775808 ≤ k ∧ k < 9223372036854775808) (hi : -9223372036854775808 ≤ i ∧ i < 9223372036854775808) :
    Calls Tryz.prog 8 #[.agg (uC s0 k i c), .int .i64 s] w fun e w' => e = .returned (.agg (upV (goU k i c s))) ∧ Below w.heap.size w w' := by
  have h2 : k % 2 = 0 ∨ k % 2 = 1 := by omega
  obtain ⟨I, hI⟩ : ∃ I : Nat, i % 281474976710657 = I := ⟨(i % 281474976710657).toNat, by omega⟩
  rcases h2 with h | h
  · have e : goU k i c s = ⟨s, 1, I, codeL c⟩ := by unfold goU; rw [h, hI]; rfl
    rw [e]; exact goes_0 s0 k i c s w hc hk hi h I hI
  · have e : goU k i c s = ⟨s, 2, I, []⟩ := by unfold goU; rw [h, hI]; rfl
    rw [e]; exact goes_1 s0 k i c s w hc hk hi h I hI
end Go.Proofs.YtfijjlkhgelmoaaGreatDoor
set_option linter.unusedVariables false
set_option linter.unusedSimpArgs false
namespace Go.Proofs.YtfijjlkhgelmoaaGreatDoor
open Go.RowKit Go.Proofs.SealMath
def frU (u : Up) : List UInt8 := frL u.k (upP u.s u.i u.c)
def flU (L : List Up) : List UInt8 := L.flatMap frU
/-- An update that may be written, for codes of 64 bits. -/
structure Gu (u : Up) : Prop where
  k : u.k = 1 ∨ u.k = 2
  s : 1 ≤ u.s ∧ u.s ≤ 1152921504606846976
  i : u.i ≤ 281474976710656
  c : u.c.length ≤ 8
  f : fitB u.k u.c.length 64 = true
theorem Gu.plen {u : Up} (h : Gu u) : (upP u.s u.i u.c).length ≤ 28 := by
  have := upP_len u.s u.i u.c
  have := h.c
  omega
theorem frU_len {u : Up} (h : Gu u) : 14 ≤ (frU u).length ∧ (frU u).length ≤ 42 := by
  unfold frU
  rw [frL_len]
  have := h.plen
  omega
/-- Updates, each with the place behind it. -/
def plU : Nat → List Up → List (Up × Nat)
  | _, [] => []
  | a, u :: L => (u, a + (frU u).length) :: plU (a + (frU u).length) L
theorem plU_len : ∀ (L : List Up) (a : Nat), (plU a L).length = L.length
  | [], _ => rfl
  | u :: L, a => by rw [plU, List.length_cons, plU_len L, List.length_cons]
theorem plU_fst : ∀ (L : List Up) (a : Nat), (plU a L).map Prod.fst = L
  | [], _ => rfl
  | u :: L, a => by rw [plU, List.map_cons, plU_fst L]
theorem plU_at (L : List Up) (a i : Nat) (z : Up × Nat) (h : (plU a L)[i]? = some z) : L[i]? = some z.1 := by
  have := congrArg (fun l => l[i]?) (plU_fst L a)
  simp only [List.getElem?_map, h, Option.map_some] at this
  exact this.symm
theorem plU_snoc : ∀ (L : List Up) (u : Up) (a : Nat), plU a (L ++ [u]) = plU a L ++ [(u, a + (flU L).length + (frU u).length)]
  | [], u, a => by simp [plU, flU]
  | v :: L, u, a => by
    rw [List.cons_append, plU, plU_snoc L u, plU, List.cons_append]
    simp only [flU, List.flatMap_cons, List.length_append, Nat.add_assoc]
theorem plU_end (L : List Up) : endU (plU 0 L) = (flU L).length := by
  rcases List.eq_nil_or_concat L with rfl | ⟨M, u, rfl⟩
  · rfl
  · rw [List.concat_eq_append, plU_snoc, endU_snoc]
    simp [flU]
theorem ups_frame (b : ByteArray) (x y : List UInt8) (k : Nat) (p : List UInt8) (hk1 : 1 ≤ k) (hk2 : k ≤ 255) (hp : p.length ≤ 65536) (hb : b.data.toList = x ++ frL k p ++ y) :
    ups b 64 x.length = ((unA k ⟨p.toArray⟩ 64).1, x.length + (p.length + 14)) :: ups b 64 (x.length + (p.length + 14)) := by
  have h := prA_frame b x.length k p x y hk1 hk2 hp hb rfl
  have hs : x.length ≤ b.size := by rw [ba_len, hb]; simp
  unfold prA at h
  rw [if_pos (by omega), Int.toNat_natCast] at h
  have h1 := ups_some (b := b) (x := 64) (a := x.length) (by rw [h])
  rw [h] at h1
  exact h1
theorem un_good {u : Up} (h : Gu u) : unA u.k ⟨(upP u.s u.i u.c).toArray⟩ 64 = (u, 0) := by
  rw [un_put u.k u.s u.i u.c 64 h.k h.s h.i, if_pos h.f]
theorem ups_list (b : ByteArray) : ∀ (L : List Up) (x y : List UInt8), (∀ u ∈ L, Gu u) → b.data.toList = x ++ flU L ++ y → ups b 64 x.length = plU x.length L ++ ups b 64 (x.length + (flU L).length)
  | [], x, y, _, hb => by simp [plU, flU]
  | u :: L, x, y, hg, hb => by
    have hu := hg u (by simp)
    have e1 : flU (u :: L) = frU u ++ flU L := by simp [flU]
    have hl : (frU u).length = (upP u.s u.i u.c).length + 14 := by unfold frU; rw [frL_len]
    have h1 := ups_frame b x (flU L ++ y) u.k (upP u.s u.i u.c) (by have := hu.k; omega) (by have := hu.k; omega) (by have := hu.plen; omega) (by rw [hb, e1]; simp [frU])
    rw [un_good hu, ← hl] at h1
    have h2 := ups_list b L (x ++ frU u) y (fun v hv => hg v (by simp [hv])) (by rw [hb, e1]; simp)
    rw [List.length_append] at h2
    rw [h1, h2, plU, e1, List.length_append, List.cons_append, Nat.add_assoc]
theorem psA_at_end (b : ByteArray) : ¬ (psA b b.size).2.2.2 = 0 := by
  intro h
  have := psA_next h
  omega
/-- Numbers one behind the other, from one on. -/
def Nu (L : List Up) : Prop := ∀ (i : Nat) (u : Up), L[i]? = some u → u.s = i + 1
theorem ok_plU {L : List Up} (h : Nu L) : okU 0 (plU 0 L) := fun i z hz => by
  rw [h i z.1 (plU_at L 0 i z hz)]; omega
/-- A whole file. -/
theorem told_good (b : ByteArray) (L : List Up) (hg : ∀ u ∈ L, Gu u) (hb : b.data.toList = flU L) : ups b 64 0 = plU 0 L := by
  have h := ups_list b L [] [] hg (by rw [hb]; simp)
  rw [List.length_nil, Nat.zero_add] at h
  have e : (flU L).length = b.size := by rw [ba_len, hb]
  rw [h, e, ups_none (psA_at_end b), List.append_nil]
/-- A frame behind that does not go. -/
theorem told_bad (b : ByteArray) (L : List Up) (k : Nat) (p y : List UInt8) (hg : ∀ u ∈ L, Gu u) (hk1 : 1 ≤ k) (hk2 : k ≤ 255) (hp : p.length ≤ 65536) (hb : b.data.toList = flU L ++ frL k p ++ y) (hn : (unA k ⟨p.toArray⟩ 64).1.s ≠ L.length + 1) : ¬ okU 0 (ups b 64 0) := by
  have h := ups_list b L [] (frL k p ++ y) hg (by rw [hb]; simp)
  have h2 := ups_frame b (flU L) y k p hk1 hk2 hp hb
  rw [List.length_nil, Nat.zero_add] at h
  rw [h2] at h
  intro ho
  have h3 := ho L.length ((unA k ⟨p.toArray⟩ 64).1, (flU L).length + (p.length + 14)) (by rw [h, List.getElem?_append_right (by rw [plU_len]; exact Nat.le_refl _), plU_len, Nat.sub_self]; rfl)
  dsimp only at h3
  omega
/-- What is written in the six ways. -/
theorem bad_zero {k : Nat} {p : List UInt8} {n : Nat} (h : (unA k ⟨p.toArray⟩ 64).2 ≠ 0) : (unA k ⟨p.toArray⟩ 64).1.s ≠ n + 1 := by
  rw [un_no k _ 64 h]
  show (0 : Nat) ≠ _
  omega
theorem bad_kind (p : List UInt8) : (unA 3 ⟨p.toArray⟩ 64).2 ≠ 0 := by unfold unA; rw [if_neg (by omega)]; decide
theorem bad_seq (n : Nat) (hn : n + 2 ≤ 1152921504606846976) : (unA 2 ⟨(upP (n + 2) 5 []).toArray⟩ 64).1.s ≠ n + 1 := by
  rw [un_put 2 (n + 2) 5 [] 64 (.inr rfl) (by omega) (by omega), if_pos (by decide)]
  show n + 2 ≠ n + 1
  omega
theorem bad_short (n : Nat) (c : List UInt8) (hc : c.length = 7) (hn : n + 1 ≤ 1152921504606846976) : (unA 1 ⟨(upP (n + 1) 5 c).toArray⟩ 64).2 ≠ 0 := by
  rw [un_put 1 (n + 1) 5 c 64 (.inl rfl) (by omega) (by omega), hc, if_neg (by decide)]
  decide
theorem bad_behind (n : Nat) (c : UInt8) (hn : n + 1 ≤ 1152921504606846976) : (unA 2 ⟨(upP (n + 1) 5 [c]).toArray⟩ 64).2 ≠ 0 := by
  rw [un_put 2 (n + 1) 5 [c] 64 (.inr rfl) (by omega) (by omega), if_neg (by simp [fitB])]
  decide
theorem vA_two (n i : Nat) (c : List UInt8) (hn : n < 18446744073709551616) : vA ⟨(upP n i c).toArray⟩ 0 = (n, (pvL 9 n).length, 0) := by
  obtain ⟨b, hb⟩ : ∃ b : ByteArray, b = ⟨(upP n i c).toArray⟩ := ⟨_, rfl⟩
  rw [← hb]
  have hl : b.data.toList = pvL 9 n ++ pvL 9 i ++ c := by rw [hb]; rfl
  have v1 : vA b ((0 : Nat) : Int) = (n, 0 + (pvL 9 n).length, 0) := vA_put b 0 n hn (by
    have := sub_app b [] (pvL 9 n) (pvL 9 i ++ c) (by rw [hl]; simp)
    simpa using this) (by omega)
  rw [Nat.zero_add] at v1; exact v1
theorem vA_three (n i : Nat) (c : List UInt8) (hn : i < 18446744073709551616) : vA ⟨(upP n i c).toArray⟩ ((pvL 9 n).length : Nat) = (i, (pvL 9 n).length + (pvL 9 i).length, 0) := by
  obtain ⟨b, hb⟩ : ∃ b : ByteArray, b = ⟨(upP n i c).toArray⟩ := ⟨_, rfl⟩
  rw [← hb]
  have hl : b.data.toList = pvL 9 n ++ pvL 9 i ++ c := by rw [hb]; rfl
  have hsz : b.size = (pvL 9 n).length + (pvL 9 i).length + c.length := by rw [ba_len, hl]; simp; omega
  exact vA_put b _ i hn (sub_app b (pvL 9 n) (pvL 9 i) c hl) (by omega)
theorem bad_id (n : Nat) (hn : n + 1 ≤ 1152921504606846976) : (unA 2 ⟨(upP (n + 1) 281474976710657 []).toArray⟩ 64).2 ≠ 0 := by
  unfold unA
  rw [if_pos (.inr rfl), vA_two _ _ _ (by omega)]
  dsimp only
  rw [if_pos rfl, if_pos (by omega), vA_three _ _ _ (by omega)]
  dsimp only
  rw [if_pos rfl, if_neg (by omega)]
  decide
theorem bad_none (n : Nat) (hn : n + 1 ≤ 1152921504606846976) : (unA 2 ⟨(pvL 9 (n + 1)).toArray⟩ 64).2 ≠ 0 := by
  obtain ⟨b, hb⟩ : ∃ b : ByteArray, b = ⟨(pvL 9 (n + 1)).toArray⟩ := ⟨_, rfl⟩
  rw [← hb]
  have hl : b.data.toList = pvL 9 (n + 1) := by rw [hb]
  have hsz : b.size = (pvL 9 (n + 1)).length := by rw [ba_len, hl]
  have v1 : vA b ((0 : Nat) : Int) = (n + 1, 0 + (pvL 9 (n + 1)).length, 0) := vA_put b 0 (n + 1) (by omega) (by
    have := sub_app b [] (pvL 9 (n + 1)) [] (by rw [hl]; simp)
    simpa using this) (by omega)
  rw [Nat.zero_add] at v1
  have v2 : ¬ (vA b ((pvL 9 (n + 1)).length : Nat)).2.2 = 0 := fun h => by
    have h1 := vA_ok b _ h
    obtain ⟨-, h2, -, h4⟩ := vA_only b _ _ _ h1
    have := (pvL_len 9 (vA b ((pvL 9 (n + 1)).length : Nat)).1).1
    omega
  have v1' : vA b 0 = (n + 1, (pvL 9 (n + 1)).length, 0) := v1
  unfold unA
  rw [if_pos (.inr rfl), v1']
  dsimp only
  rw [if_pos rfl, if_pos (by omega), if_neg v2]
  exact v2
end Go.Proofs.YtfijjlkhgelmoaaGreatDoor
