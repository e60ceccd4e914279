/-
  DERIVED. The document's own bytes of heads and entries.
-/
import Derived.Test.YtgloigegmcglfaaDoorBBytesH
import Derived.Test.YtgloigegmcglfaaDoorBStay
import Derived.Test.YtgloigegmcglfaaDoorBPack0
set_option linter.unusedVariables false
set_option linter.unusedSimpArgs false
namespace Go.Proofs.YtgloigegmcglfaaDoor
open Go.RowKit Go.Proofs.SealMath
theorem rnumber_e (n : Nat) (w : World) (hn : n < 9223372036854775808) (L : List UInt8) (hL : L = pvL 9 n) :
    Calls Tryd.prog 40 #[.int .i64 n] w fun e w' => e = .returned (.string ⟨L.toArray⟩) ∧ Below w.heap.size w w' := by
  have hw : IntKind.u64.wrap (n : Int) = n := by rw [IntKind.wrap_u64]; omega
  subst hL
  go_enter Tryd.func40, Tryd.ntmps40
  go_wp2_with (go_at_call 77; refine (rputvar_any n _ (by omega)).mono ?_; rintro e w2 ⟨rfl, b2⟩)
  go_ret
  exact ⟨rfl, b2⟩
theorem rfour_e (n : Nat) (w : World) (hn : n < 4294967296) (L : List UInt8) (hL : L = fixL n 4) :
    Calls Tryd.prog 39 #[.int .i64 n] w fun e w' => e = .returned (.string ⟨L.toArray⟩) ∧ Below w.heap.size w w' := by
  have hw : IntKind.u64.wrap (n : Int) = n := by rw [IntKind.wrap_u64]; omega
  subst hL
  have hp : pfT n 4 = fixL n 4 := by unfold pfT; rw [if_pos (by decide), if_pos (by show n < 256 ^ 4; omega)]; rfl
  have hc := fun W => rputfix_any n 4 W (by omega)
  rw [hp] at hc
  clear hp
  go_enter Tryd.func39, Tryd.ntmps39
  go_wp2_with (go_at_call 76; refine (hc _).mono ?_; rintro e w2 ⟨rfl, b2⟩)
  go_ret
  exact ⟨rfl, b2⟩
theorem rframed_e (k : Nat) (p : ByteArray) (w : World) (h1 : 1 ≤ k) (h2 : k ≤ 255) (h3 : p.size ≤ 65536) :
    Calls Tryd.prog 36 #[.int .i64 k, .string p] w fun e w' => e = .returned (.string ⟨(frL k p.data.toList).toArray⟩) ∧ Below w.heap.size w w' := by
  go_enter Tryd.func36, Tryd.ntmps36
  go_wp2_with (go_at_call 75; refine (rframe_ok k p _ h1 h2 h3).mono ?_; rintro e w2 ⟨rfl, b2⟩)
  go_ret
  exact ⟨rfl, b2⟩
set_option maxHeartbeats 8000000 in
set_option maxRecDepth 100000 in
theorem rhead_x (a b c d e f : Nat) (w : World) (ha : a < 9223372036854775808) (hb : b < 9223372036854775808) (hc : c < 9223372036854775808) (hd : d < 9223372036854775808) (he : e < 9223372036854775808) (hf : f < 9223372036854775808) (x : Int) :
    Calls Tryd.prog 37 #[.agg #[.int .i64 a, .int .i64 b, .int .i64 c, .int .i64 d, .int .i64 e, .int .i64 x], .int .i64 f] w fun r w' => ∃ X : ByteArray, r = .returned (.string X) ∧ X.size ≤ 60 ∧ Hid (X.data.toList = hdB ⟨a, b, c, d, e, x⟩ f) ∧ Below w.heap.size w w' := by
  have hh : Hid (pvL 9 a ++ (pvL 9 b ++ (pvL 9 c ++ (pvL 9 d ++ (pvL 9 e ++ pvL 9 f)))) = hdB ⟨a, b, c, d, e, x⟩ f) := rfl
  have U0 := SAt.new w [.int .i64 a, .int .i64 b, .int .i64 c, .int .i64 d, .int .i64 e, .int .i64 x] 23
  have ba : Below w.heap.size w (w.alloc (.cells #[.int .i64 a, .int .i64 b, .int .i64 c, .int .i64 d, .int .i64 e, .int .i64 x] 23)) := (Below.refl _ w).alloc (Nat.le_refl _) _
  obtain ⟨w1, hw1⟩ : ∃ w1, w1 = w.alloc (.cells #[.int .i64 a, .int .i64 b, .int .i64 c, .int .i64 d, .int .i64 e, .int .i64 x] 23) := ⟨_, rfl⟩
  obtain ⟨LA, qa⟩ : ∃ L, L = pvL 9 a := ⟨_, rfl⟩
  have ka : LA.length ≤ 10 := by rw [qa]; exact (pvL_len 9 a).2
  have ca := fun W => rnumber_e a W ha LA qa
  obtain ⟨LB, qb⟩ : ∃ L, L = pvL 9 b := ⟨_, rfl⟩
  have kb : LB.length ≤ 10 := by rw [qb]; exact (pvL_len 9 b).2
  have cb := fun W => rnumber_e b W hb LB qb
  obtain ⟨LC, qc⟩ : ∃ L, L = pvL 9 c := ⟨_, rfl⟩
  have kc : LC.length ≤ 10 := by rw [qc]; exact (pvL_len 9 c).2
  have cc := fun W => rnumber_e c W hc LC qc
  obtain ⟨LD, qd⟩ : ∃ L, L = pvL 9 d := ⟨_, rfl⟩
  have kd : LD.length ≤ 10 := by rw [qd]; exact (pvL_len 9 d).2
  have cd := fun W => rnumber_e d W hd LD qd
  obtain ⟨LE, qe⟩ : ∃ L, L = pvL 9 e := ⟨_, rfl⟩
  have ke : LE.length ≤ 10 := by rw [qe]; exact (pvL_len 9 e).2
  have ce := fun W => rnumber_e e W he LE qe
  obtain ⟨LF, qf⟩ : ∃ L, L = pvL 9 f := ⟨_, rfl⟩
  have kf : LF.length ≤ 10 := by rw [qf]; exact (pvL_len 9 f).2
  have cf := fun W => rnumber_e f W hf LF qf
  rw [← qa, ← qb, ← qc, ← qd, ← qe, ← qf] at hh
  clear qa qb qc qd qe qf
  have z1 : ¬ (9223372036854775807 < LA.length + LB.length) := by omega
  have z2 : ¬ (9223372036854775807 < LA.length + LB.length + LC.length) := by omega
  have z3 : ¬ (9223372036854775807 < LA.length + LB.length + LC.length + LD.length) := by omega
  have z4 : ¬ (9223372036854775807 < LA.length + LB.length + LC.length + LD.length + LE.length) := by omega
  have z5 : ¬ (9223372036854775807 < LA.length + LB.length + LC.length + LD.length + LE.length + LF.length) := by omega
  clear ka kb kc kd ke kf ha hb hc hd he hf
  go_enter Tryd.func37, Tryd.ntmps37
  go_wp2
  rw [← hw1] at U0 ba
  rw [show w.alloc (.cells #[.int .i64 a, .int .i64 b, .int .i64 c, .int .i64 d, .int .i64 e, .int .i64 x] 23) = w1 from hw1.symm]
  clear hw1
  have q0 := U0 0 _ rfl
  have q1 := U0 1 _ rfl
  have q2 := U0 2 _ rfl
  have q3 := U0 3 _ rfl
  have q4 := U0 4 _ rfl
  clear U0
  go_region_held (fun w' => Below w1.heap.size w1 w' ∧ w'.cell? ⟨w.heap.size, 0, none⟩ = some (.int .i64 a) ∧ w'.cell? ⟨w.heap.size, 1, none⟩ = some (.int .i64 b) ∧ w'.cell? ⟨w.heap.size, 2, none⟩ = some (.int .i64 c) ∧ w'.cell? ⟨w.heap.size, 3, none⟩ = some (.int .i64 d) ∧ w'.cell? ⟨w.heap.size, 4, none⟩ = some (.int .i64 e))
    ((refine (fun hb => ⟨hb, cell_lat hb q0, cell_lat hb q1, cell_lat hb q2, cell_lat hb q3, cell_lat hb q4⟩) ?_; first | exact bb | exact b_drew w1))
    (first
      | (go_at_call 40; refine (ca _).mono ?_; rintro e w2 ⟨rfl, b2⟩; clear ca; have bb : Below w1.heap.size w1 w2 := (by first | exact chain bb b2 (Nat.le_refl _) | exact below_d b2))
      | (go_at_call 40; refine (cb _).mono ?_; rintro e w2 ⟨rfl, b2⟩; clear cb; have bb : Below w1.heap.size w1 w2 := (by first | exact chain bb b2 (Nat.le_refl _) | exact below_d b2))
      | (go_at_call 40; refine (cc _).mono ?_; rintro e w2 ⟨rfl, b2⟩; clear cc; have bb : Below w1.heap.size w1 w2 := (by first | exact chain bb b2 (Nat.le_refl _) | exact below_d b2))
      | (go_at_call 40; refine (cd _).mono ?_; rintro e w2 ⟨rfl, b2⟩; clear cd; have bb : Below w1.heap.size w1 w2 := (by first | exact chain bb b2 (Nat.le_refl _) | exact below_d b2))
      | (go_at_call 40; refine (ce _).mono ?_; rintro e w2 ⟨rfl, b2⟩; clear ce; have bb : Below w1.heap.size w1 w2 := (by first | exact chain bb b2 (Nat.le_refl _) | exact below_d b2))
      | (go_at_call 40; refine (cf _).mono ?_; rintro e w2 ⟨rfl, b2⟩; clear cf; have bb : Below w1.heap.size w1 w2 := (by first | exact chain bb b2 (Nat.le_refl _) | exact below_d b2)))
  all_goals
    go_wp2
    go_ret
    exact six_fin hh _ _ (chain ba bb (Nat.le_refl _))
set_option maxHeartbeats 8000000 in
set_option maxRecDepth 100000 in
theorem rbytes_t (v i s : Nat) (c : ByteArray) (w : World) (hv : v < 4294967296) (hi : i < 9223372036854775808) (hs : s < 9223372036854775808) (hc : c.size ≤ 128) :
    Calls Tryd.prog 35 #[.agg #[.int .i64 v, .string c, .int .i64 i, .int .i64 s, .bool true]] w fun e w' => e = .returned (.string ⟨(enB ⟨v, c, i, s, true⟩).toArray⟩) ∧ Below w.heap.size w w' := by
  have hh : Hid (enB ⟨v, c, i, s, true⟩ = (fixL v 4 ++ (c.data.toList ++ pvL 9 i)) ++ (pvL 9 s ++ dB true)) := rfl
  have U0 := SAt.new w [.int .i64 v, .string c, .int .i64 i, .int .i64 s, .bool true] 40
  have ba : Below w.heap.size w (w.alloc (.cells #[.int .i64 v, .string c, .int .i64 i, .int .i64 s, .bool true] 40)) := (Below.refl _ w).alloc (Nat.le_refl _) _
  obtain ⟨w1, hw1⟩ : ∃ w1, w1 = w.alloc (.cells #[.int .i64 v, .string c, .int .i64 i, .int .i64 s, .bool true] 40) := ⟨_, rfl⟩
  obtain ⟨LV, qv⟩ : ∃ L, L = fixL v 4 := ⟨_, rfl⟩
  have kv : LV.length = 4 := by rw [qv]; exact fixL_len _ _
  have cv := fun W => rfour_e v W hv LV qv
  obtain ⟨LI, qi⟩ : ∃ L, L = pvL 9 i := ⟨_, rfl⟩
  have ki : LI.length ≤ 10 := by rw [qi]; exact (pvL_len 9 i).2
  have ci := fun W => rnumber_e i W hi LI qi
  obtain ⟨LS, qs⟩ : ∃ L, L = pvL 9 s := ⟨_, rfl⟩
  have ks : LS.length ≤ 10 := by rw [qs]; exact (pvL_len 9 s).2
  have cs := fun W => rnumber_e s W hs LS qs
  rw [← qv, ← qi, ← qs] at hh
  have z1 : ¬ (9223372036854775807 < LV.length + c.size) := by omega
  have z2 : ¬ (9223372036854775807 < LV.length + c.size + LI.length) := by omega
  have z3 : ¬ (9223372036854775807 < LV.length + c.size + LI.length + LS.length) := by omega
  have z4 : ¬ (9223372036854775807 < LV.length + c.size + LI.length + LS.length + 1) := by omega
  clear qv qi qs kv ki ks hv hi hs hc
  go_enter Tryd.func35, Tryd.ntmps35
  go_wp2
  rw [← hw1] at U0 ba
  rw [show w.alloc (.cells #[.int .i64 v, .string c, .int .i64 i, .int .i64 s, .bool true] 40) = w1 from hw1.symm]
  clear hw1
  have q0 := U0 0 _ rfl
  have q1 := U0 1 _ rfl
  have q2 := U0 2 _ rfl
  have q3 := U0 3 _ rfl
  clear U0
  go_region_held (fun w' => Below w1.heap.size w1 w' ∧ w'.cell? ⟨w.heap.size, 0, none⟩ = some (.int .i64 v) ∧ w'.cell? ⟨w.heap.size, 1, none⟩ = some (.string c) ∧ w'.cell? ⟨w.heap.size, 2, none⟩ = some (.int .i64 i) ∧ w'.cell? ⟨w.heap.size, 3, none⟩ = some (.int .i64 s))
    ((refine (fun hb => ⟨hb, cell_lat hb q0, cell_lat hb q1, cell_lat hb q2, cell_lat hb q3⟩) ?_; first | exact bb | exact b_drew w1))
    (first
      | (go_at_call 39; refine (cv _).mono ?_; rintro e w2 ⟨rfl, b2⟩; clear cv; have bb : Below w1.heap.size w1 w2 := (by first | exact chain bb b2 (Nat.le_refl _) | exact below_d b2))
      | (go_at_call 40; refine (ci _).mono ?_; rintro e w2 ⟨rfl, b2⟩; clear ci; have bb : Below w1.heap.size w1 w2 := (by first | exact chain bb b2 (Nat.le_refl _) | exact below_d b2))
      | (go_at_call 40; refine (cs _).mono ?_; rintro e w2 ⟨rfl, b2⟩; clear cs; have bb : Below w1.heap.size w1 w2 := (by first | exact chain bb b2 (Nat.le_refl _) | exact below_d b2)))
  all_goals
    go_wp2
    go_ret
    refine ⟨congrArg (fun z => Ending.returned (Value.string z)) (ba_ext ?_), chain ba bb (Nat.le_refl _)⟩
    show _ = enB _
    rw [hh.out]
    simp [dB]
set_option maxHeartbeats 8000000 in
set_option maxRecDepth 100000 in
theorem rbytes_f (v i s : Nat) (c : ByteArray) (w : World) (hv : v < 4294967296) (hi : i < 9223372036854775808) (hs : s < 9223372036854775808) (hc : c.size ≤ 128) :
    Calls Tryd.prog 35 #[.agg #[.int .i64 v, .string c, .int .i64 i, .int .i64 s, .bool false]] w fun e w' => e = .returned (.string ⟨(enB ⟨v, c, i, s, false⟩).toArray⟩) ∧ Below w.heap.size w w' := by
  have hh : Hid (enB ⟨v, c, i, s, false⟩ = (fixL v 4 ++ (c.data.toList ++ pvL 9 i)) ++ (pvL 9 s ++ dB false)) := rfl
  have U0 := SAt.new w [.int .i64 v, .string c, .int .i64 i, .int .i64 s, .bool false] 40
  have ba : Below w.heap.size w (w.alloc (.cells #[.int .i64 v, .string c, .int .i64 i, .int .i64 s, .bool false] 40)) := (Below.refl _ w).alloc (Nat.le_refl _) _
  obtain ⟨w1, hw1⟩ : ∃ w1, w1 = w.alloc (.cells #[.int .i64 v, .string c, .int .i64 i, .int .i64 s, .bool false] 40) := ⟨_, rfl⟩
  obtain ⟨LV, qv⟩ : ∃ L, L = fixL v 4 := ⟨_, rfl⟩
  have kv : LV.length = 4 := by rw [qv]; exact fixL_len _ _
  have cv := fun W => rfour_e v W hv LV qv
  obtain ⟨LI, qi⟩ : ∃ L, L = pvL 9 i := ⟨_, rfl⟩
  have ki : LI.length ≤ 10 := by rw [qi]; exact (pvL_len 9 i).2
  have ci := fun W => rnumber_e i W hi LI qi
  obtain ⟨LS, qs⟩ : ∃ L, L = pvL 9 s := ⟨_, rfl⟩
  have ks : LS.length ≤ 10 := by rw [qs]; exact (pvL_len 9 s).2
  have cs := fun W => rnumber_e s W hs LS qs
  rw [← qv, ← qi, ← qs] at hh
  have z1 : ¬ (9223372036854775807 < LV.length + c.size) := by omega
  have z2 : ¬ (9223372036854775807 < LV.length + c.size + LI.length) := by omega
  have z3 : ¬ (9223372036854775807 < LV.length + c.size + LI.length + LS.length) := by omega
  have z4 : ¬ (9223372036854775807 < LV.length + c.size + LI.length + LS.length + 1) := by omega
  clear qv qi qs kv ki ks hv hi hs hc
  go_enter Tryd.func35, Tryd.ntmps35
  go_wp2
  rw [← hw1] at U0 ba
  rw [show w.alloc (.cells #[.int .i64 v, .string c, .int .i64 i, .int .i64 s, .bool false] 40) = w1 from hw1.symm]
  clear hw1
  have q0 := U0 0 _ rfl
  have q1 := U0 1 _ rfl
  have q2 := U0 2 _ rfl
  have q3 := U0 3 _ rfl
  clear U0
  go_region_held (fun w' => Below w1.heap.size w1 w' ∧ w'.cell? ⟨w.heap.size, 0, none⟩ = some (.int .i64 v) ∧ w'.cell? ⟨w.heap.size, 1, none⟩ = some (.string c) ∧ w'.cell? ⟨w.heap.size, 2, none⟩ = some (.int .i64 i) ∧ w'.cell? ⟨w.heap.size, 3, none⟩ = some (.int .i64 s))
    ((refine (fun hb => ⟨hb, cell_lat hb q0, cell_lat hb q1, cell_lat hb q2, cell_lat hb q3⟩) ?_; first | exact bb | exact b_drew w1))
    (first
      | (go_at_call 39; refine (cv _).mono ?_; rintro e w2 ⟨rfl, b2⟩; clear cv; have bb : Below w1.heap.size w1 w2 := (by first | exact chain bb b2 (Nat.le_refl _) | exact below_d b2))
      | (go_at_call 40; refine (ci _).mono ?_; rintro e w2 ⟨rfl, b2⟩; clear ci; have bb : Below w1.heap.size w1 w2 := (by first | exact chain bb b2 (Nat.le_refl _) | exact below_d b2))
      | (go_at_call 40; refine (cs _).mono ?_; rintro e w2 ⟨rfl, b2⟩; clear cs; have bb : Below w1.heap.size w1 w2 := (by first | exact chain bb b2 (Nat.le_refl _) | exact below_d b2)))
  all_goals
    go_wp2
    go_ret
    refine ⟨congrArg (fun z => Ending.returned (Value.string z)) (ba_ext ?_), chain ba bb (Nat.le_refl _)⟩
    show _ = enB _
    rw [hh.out]
    simp [dB]
theorem rbytes_o (e : En) (h : Ok e) (w : World) :
    Calls Tryd.prog 35 #[.agg #[.int .i64 e.v, .string e.c, .int .i64 e.i, .int .i64 e.s, .bool e.d]] w fun r w' => r = .returned (.string ⟨(enB e).toArray⟩) ∧ Below w.heap.size w w' := by
  obtain ⟨v, c, i, s, d⟩ := e
  obtain ⟨⟨h1, h2⟩, ⟨h3, h4⟩, ⟨h5, h6⟩, h7⟩ := h
  obtain ⟨V, rfl⟩ : ∃ V : Nat, v = V := ⟨v.toNat, by dsimp only at *; omega⟩
  obtain ⟨I, rfl⟩ : ∃ I : Nat, i = I := ⟨i.toNat, by dsimp only at *; omega⟩
  obtain ⟨S, rfl⟩ : ∃ S : Nat, s = S := ⟨s.toNat, by dsimp only at *; omega⟩
  dsimp only at *
  cases d
  · exact rbytes_f V I S c w (by omega) (by omega) (by omega) h7
  · exact rbytes_t V I S c w (by omega) (by omega) (by omega) h7
end Go.Proofs.YtgloigegmcglfaaDoor
