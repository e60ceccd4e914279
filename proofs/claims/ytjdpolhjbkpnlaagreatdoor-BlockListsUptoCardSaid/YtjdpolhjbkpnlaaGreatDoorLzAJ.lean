/-
  DERIVED. BRef1, BWide, BRef4, BRef5, BX1, BRef2, as one text.
-/
import Derived.Test.YtjdpolhjbkpnlaaGreatDoorLzAF
import Derived.Test.YtjdpolhjbkpnlaaGreatDoorLzAD
import Derived.Test.YtjdpolhjbkpnlaaGreatDoorLzAE
import Derived.Lib.FrozenHead
import Derived.Test.YtjdpolhjbkpnlaaGreatDoorLzAG
import Derived.Test.YtjdpolhjbkpnlaaGreatDoorLzAI
set_option linter.unusedVariables false
set_option linter.unusedSimpArgs false
namespace Go.Proofs.YtjdpolhjbkpnlaaGreatDoor
open Go.RowKit Go.Proofs.SealMath
theorem rnumber_e (n : Nat) (w : World) (hn : n < 9223372036854775808) (L : List UInt8) (hL : L = pvL 9 n) :
    Calls Tryz.prog 50 #[.int .i64 n] w fun e w' => e = .returned (.string ⟨L.toArray⟩) ∧ Below w.heap.size w w' := by
  have hw : IntKind.u64.wrap (n : Int) = n := by rw [IntKind.wrap_u64]; omega
  subst hL
  go_enter Tryz.func50, Tryz.ntmps50
  go_wp2_with (go_at_call 87; refine (rputvar_any n _ (by omega)).mono ?_; rintro e w2 ⟨rfl, b2⟩)
  go_ret
  exact ⟨rfl, b2⟩
theorem rfour_e (n : Nat) (w : World) (hn : n < 4294967296) (L : List UInt8) (hL : L = fixL n 4) :
    Calls Tryz.prog 49 #[.int .i64 n] w fun e w' => e = .returned (.string ⟨L.toArray⟩) ∧ Below w.heap.size w w' := by
  have hw : IntKind.u64.wrap (n : Int) = n := by rw [IntKind.wrap_u64]; omega
  subst hL
  have hp : pfT n 4 = fixL n 4 := by unfold pfT; rw [if_pos (by decide), if_pos (by show n < 256 ^ 4; omega)]; rfl
  have hc := fun W => rputfix_any n 4 W (by omega)
  rw [hp] at hc
  clear hp
  go_enter Tryz.func49, Tryz.ntmps49
  go_wp2_with (go_at_call 86; refine (hc _).mono ?_; rintro e w2 ⟨rfl, b2⟩)
  go_ret
  exact ⟨rfl, b2⟩
theorem rframed_e (k : Nat) (p : ByteArray) (w : World) (h1 : 1 ≤ k) (h2 : k ≤ 255) (h3 : p.size ≤ 65536) :
    Calls Tryz.prog 46 #[.int .i64 k, .string p] w fun e w' => e = .returned (.string ⟨(frL k p.data.toList).toArray⟩) ∧ Below w.heap.size w w' := by
  go_enter Tryz.func46, Tryz.ntmps46
  go_wp2_with (go_at_call 85; refine (rframe_ok k p _ h1 h2 h3).mono ?_; rintro e w2 ⟨rfl, b2⟩)
  go_ret
  exact ⟨rfl, b2⟩
set_option maxHeartbeats 8000000 in
set_option maxRecDepth 100000 in
theorem rhead_x (a b c d e f : Nat) (w : World) (ha : a < 9223372036854775808) (hb : b < 9223372036854775808) (hc : c < 9223372036854775808) (hd : d < 9223372036854775808) (he : e < 9223372036854775808) (hf : f < 9223372036854775808) (x : Int) :
    Calls Tryz.prog 47 #[.agg #[.int .i64 a, .int .i64 b, .int .i64 c, .int .i64 d, .int .i64 e, .int .i64 x], .int .i64 f] w fun r w' => ∃ X : ByteArray, r = .returned (.string X) ∧ X.size ≤ 60 ∧ Hid (X.data.toList = hdB ⟨a, b, c, d, e, x⟩ f) ∧ Below w.heap.size w w' := by
  have hh : Hid (pvL 9 a ++ (pvL 9 b ++ (pvL 9 c ++ (pvL 9 d ++ (pvL 9 e ++ pvL 9 f)))) = hdB ⟨a, b, c, d, e, x⟩ f) := rfl
  have U0 := SAt.new w [.int .i64 a, .int .i64 b, .int .i64 c, .int .i64 d, .int .i64 e, .int .i64 x] 31
  have ba : Below w.heap.size w (w.alloc (.cells #[.int .i64 a, .int .i64 b, .int .i64 c, .int .i64 d, .int .i64 e, .int .i64 x] 31)) := (Below.refl _ w).alloc (Nat.le_refl _) _
  obtain ⟨w1, hw1⟩ : ∃ w1, w1 = w.alloc (.cells #[.int .i64 a, .int .i64 b, .int .i64 c, .int .i64 d, .int .i64 e, .int .i64 x] 31) := ⟨_, rfl⟩
  obtain ⟨LA, qa⟩ : ∃ L, L = pvL 9 a := ⟨_, rfl⟩
  have ka : LA.length ≤ 10 := by rw [qa]; exact (pvL_len 9 a).2
  have ca := fun W => rnumber_e a W ha LA qa
  obtain ⟨LB, qb⟩ : ∃ L, L = pvL 9 b := ⟨_, rfl⟩
  have kb : LB.length ≤ 10 := by rw [qb]; exact (pvL_len 9 b).2
  have cb := fun W => rnumber_e b W hb LB qb
  obtain ⟨LC, qc⟩ : ∃ L, L = pvL 9 c := ⟨_, rfl⟩
  have kc : LC.length ≤ 10 := by rw [qc]; exact (pvL_len 9 c).2
  have cc := fun W => rnumber_e c W hc LC qc
  obtain ⟨LD, qd⟩ : ∃ L, L = pvL 9 d := ⟨_, rfl⟩
  have kd : LD.length ≤ 10 := by rw [qd]; exact (pvL_len 9 d).2
  have cd := fun W => rnumber_e d W hd LD qd
  obtain ⟨LE, qe⟩ : ∃ L, L = pvL 9 e := ⟨_, rfl⟩
  have ke : LE.length ≤ 10 := by rw [qe]; exact (pvL_len 9 e).2
  have ce := fun W => rnumber_e e W he LE qe
  obtain ⟨LF, qf⟩ : ∃ L, L = pvL 9 f := ⟨_, rfl⟩
  have kf : LF.length ≤ 10 := by rw [qf]; exact (pvL_len 9 f).2
  have cf := fun W => rnumber_e f W hf LF qf
  rw [← qa, ← qb, ← qc, ← qd, ← qe, ← qf] at hh
  clear qa qb qc qd qe qf
  have z1 : ¬ (9223372036854775807 < LA.length + LB.length) := by omega
  have z2 : ¬ (9223372036854775807 < LA.length + LB.length + LC.length) := by omega
  have z3 : ¬ (9223372036854775807 < LA.length + LB.length + LC.length + LD.length) := by omega
  have z4 : ¬ (9223372036854775807 < LA.length + LB.length + LC.length + LD.length + LE.length) := by omega
  have z5 : ¬ (9223372036854775807 < LA.length + LB.length + LC.length + LD.length + LE.length + LF.length) := by omega
  clear ka kb kc kd ke kf ha hb hc hd he hf
  go_enter Tryz.func47, Tryz.ntmps47
  go_wp2
  rw [← hw1] at U0 ba
  rw [show w.alloc (.cells #[.int .i64 a, .int .i64 b, .int .i64 c, .int .i64 d, .int .i64 e, .int .i64 x] 31) = w1 from hw1.symm]
  clear hw1
  have q0 := U0 0 _ rfl
  have q1 := U0 1 _ rfl
  have q2 := U0 2 _ rfl
  have q3 := U0 3 _ rfl
  have q4 := U0 4 _ rfl
  clear U0
  go_region_held (fun w' => Below w1.heap.size w1 w' ∧ w'.cell? ⟨w.heap.size, 0, none⟩ = some (.int .i64 a) ∧ w'.cell? ⟨w.heap.size, 1, none⟩ = some (.int .i64 b) ∧ w'.cell? ⟨w.heap.size, 2, none⟩ = some (.int .i64 c) ∧ w'.cell? ⟨w.heap.size, 3, none⟩ = some (.int .i64 d) ∧ w'.cell? ⟨w.heap.size, 4, none⟩ = some (.int .i64 e))
    ((refine (fun hb => ⟨hb, cell_lat hb q0, cell_lat hb q1, cell_lat hb q2, cell_lat hb q3, cell_lat hb q4⟩) ?_; first | exact bb | exact b_drew w1))
    (first
      | (go_at_call 50; refine (ca _).mono ?_; rintro e w2 ⟨rfl, b2⟩; clear ca; have bb : Below w1.heap.size w1 w2 := (by first | exact chain bb b2 (Nat.le_refl _) | exact below_d b2))
      | (go_at_call 50; refine (cb _).mono ?_; rintro e w2 ⟨rfl, b2⟩; clear cb; have bb : Below w1.heap.size w1 w2 := (by first | exact chain bb b2 (Nat.le_refl _) | exact below_d b2))
      | (go_at_call 50; refine (cc _).mono ?_; rintro e w2 ⟨rfl, b2⟩; clear cc; have bb : Below w1.heap.size w1 w2 := (by first | exact chain bb b2 (Nat.le_refl _) | exact below_d b2))
      | (go_at_call 50; refine (cd _).mono ?_; rintro e w2 ⟨rfl, b2⟩; clear cd; have bb : Below w1.heap.size w1 w2 := (by first | exact chain bb b2 (Nat.le_refl _) | exact below_d b2))
      | (go_at_call 50; refine (ce _).mono ?_; rintro e w2 ⟨rfl, b2⟩; clear ce; have bb : Below w1.heap.size w1 w2 := (by first | exact chain bb b2 (Nat.le_refl _) | exact below_d b2))
      | (go_at_call 50; refine (cf _).mono ?_; rintro e w2 ⟨rfl, b2⟩; clear cf; have bb : Below w1.heap.size w1 w2 := (by first | exact chain bb b2 (Nat.le_refl _) | exact below_d b2)))
  all_goals
    go_wp2
    go_ret
    exact six_fin hh _ _ (chain ba bb (Nat.le_refl _))
set_option maxHeartbeats 8000000 in
set_option maxRecDepth 100000 in
theorem rbytes_t (v i s : Nat) (c : ByteArray) (w : World) (hv : v < 4294967296) (hi : i < 9223372036854775808) (hs : s < 9223372036854775808) (hc : c.size ≤ 128) :
    Calls Tryz.prog 45 #[.agg #[.int .i64 v, .string c, .int .i64 i, .int .i64 s, .bool true]] w fun e w' => e = .returned (.string ⟨(enB ⟨v, c, i, s, true⟩).toArray⟩) ∧ Below w.heap.size w w' := by
  have hh : Hid (enB ⟨v, c, i, s, true⟩ = (fixL v 4 ++ (c.data.toList ++ pvL 9 i)) ++ (pvL 9 s ++ dB true)) := rfl
  have U0 := SAt.new w [.int .i64 v, .string c, .int .i64 i, .int .i64 s, .bool true] 38
  have ba : Below w.heap.size w (w.alloc (.cells #[.int .i64 v, .string c, .int .i64 i, .int .i64 s, .bool true] 38)) := (Below.refl _ w).alloc (Nat.le_refl _) _
  obtain ⟨w1, hw1⟩ : ∃ w1, w1 = w.alloc (.cells #[.int .i64 v, .string c, .int .i64 i, .int .i64 s, .bool true] 38) := ⟨_, rfl⟩
  obtain ⟨LV, qv⟩ : ∃ L, L = fixL v 4 := ⟨_, rfl⟩
  have kv : LV.length = 4 := by rw [qv]; exact fixL_len _ _
  have cv := fun W => rfour_e v W hv LV qv
  obtain ⟨LI, qi⟩ : ∃ L, L = pvL 9 i := ⟨_, rfl⟩
  have ki : LI.length ≤ 10 := by rw [qi]; exact (pvL_len 9 i).2
  have ci := fun W => rnumber_e i W hi LI qi
  obtain ⟨LS, qs⟩ : ∃ L, L = pvL 9 s := ⟨_, rfl⟩
  have ks : LS.length ≤ 10 := by rw [qs]; exact (pvL_len 9 s).2
  have cs := fun W => rnumber_e s W hs LS qs
  rw [← qv, ← qi, ← qs] at hh
  have z1 : ¬ (9223372036854775807 < LV.length + c.size) := by omega
  have z2 : ¬ (9223372036854775807 < LV.length + c.size + LI.length) := by omega
  have z3 : ¬ (9223372036854775807 < LV.length + c.size + LI.length + LS.length) := by omega
  have z4 : ¬ (9223372036854775807 < LV.length + c.size + LI.length + LS.length + 1) := by omega
  clear qv qi qs kv ki ks hv hi hs hc
  go_enter Tryz.func45, Tryz.ntmps45
  go_wp2
  rw [← hw1] at U0 ba
  rw [show w.alloc (.cells #[.int .i64 v, .string c, .int .i64 i, .int .i64 s, .bool true] 38) = w1 from hw1.symm]
  clear hw1
  have q0 := U0 0 _ rfl
  have q1 := U0 1 _ rfl
  have q2 := U0 2 _ rfl
  have q3 := U0 3 _ rfl
  clear U0
  go_region_held (fun w' => Below w1.heap.size w1 w' ∧ w'.cell? ⟨w.heap.size, 0, none⟩ = some (.int .i64 v) ∧ w'.cell? ⟨w.heap.size, 1, none⟩ = some (.string c) ∧ w'.cell? ⟨w.heap.size, 2, none⟩ = some (.int .i64 i) ∧ w'.cell? ⟨w.heap.size, 3, none⟩ = some (.int .i64 s))
    ((refine (fun hb => ⟨hb, cell_lat hb q0, cell_lat hb q1, cell_lat hb q2, cell_lat hb q3⟩) ?_; first | exact bb | exact b_drew w1))
    (first
      | (go_at_call 49; refine (cv _).mono ?_; rintro e w2 ⟨rfl, b2⟩; clear cv; have bb : Below w1.heap.size w1 w2 := (by first | exact chain bb b2 (Nat.le_refl _) | exact below_d b2))
      | (go_at_call 50; refine (ci _).mono ?_; rintro e w2 ⟨rfl, b2⟩; clear ci; have bb : Below w1.heap.size w1 w2 := (by first | exact chain bb b2 (Nat.le_refl _) | exact below_d b2))
      | (go_at_call 50; refine (cs _).mono ?_; rintro e w2 ⟨rfl, b2⟩; clear cs; have bb : Below w1.heap.size w1 w2 := (by first | exact chain bb b2 (Nat.le_refl _) | exact below_d b2)))
  all_goals
    go_wp2
    go_ret
    refine ⟨congrArg (fun z => Ending.returned (Value.string z)) (ba_ext ?_), chain ba bb (Nat.le_refl _)⟩
    show _ = enB _
    rw [hh.out]
    simp [dB]
set_option maxHeartbeats 8000000 in
set_option maxRecDepth 100000 in
theorem rbytes_f (v i s : Nat) (c : ByteArray) (w : World) (hv : v < 4294967296) (hi : i < 9223372036854775808) (hs : s < 9223372036854775808) (hc : c.size ≤ 128) :
    Calls Tryz.prog 45 #[.agg #[.int .i64 v, .string c, .int .i64 i, .int .i64 s, .bool false]] w fun e w' => e = .returned (.string ⟨(enB ⟨v, c, i, s, false⟩).toArray⟩) ∧ Below w.heap.size w w' := by
  have hh : Hid (enB ⟨v, c, i, s, false⟩ = (fixL v 4 ++ (c.data.toList ++ pvL 9 i)) ++ (pvL 9 s ++ dB false)) := rfl
  have U0 := SAt.new w [.int .i64 v, .string c, .int .i64 i, .int .i64 s, .bool false] 38
  have ba : Below w.heap.size w (w.alloc (.cells #[.int .i64 v, .string c, .int .i64 i, .int .i64 s, .bool false] 38)) := (Below.refl _ w).alloc (Nat.le_refl _) _
  obtain ⟨w1, hw1⟩ : ∃ w1, w1 = w.alloc (.cells #[.int .i64 v, .string c, .int .i64 i, .int .i64 s, .bool false] 38) := ⟨_, rfl⟩
  obtain ⟨LV, qv⟩ : ∃ L, L = fixL v 4 := ⟨_, rfl⟩
  have kv : LV.length = 4 := by rw [qv]; exact fixL_len _ _
  have cv := fun W => rfour_e v W hv LV qv
  obtain ⟨LI, qi⟩ : ∃ L, L = pvL 9 i := ⟨_, rfl⟩
  have ki : LI.length ≤ 10 := by rw [qi]; exact (pvL_len 9 i).2
  have ci := fun W => rnumber_e i W hi LI qi
  obtain ⟨LS, qs⟩ : ∃ L, L = pvL 9 s := ⟨_, rfl⟩
  have ks : LS.length ≤ 10 := by rw [qs]; exact (pvL_len 9 s).2
  have cs := fun W => rnumber_e s W hs LS qs
  rw [← qv, ← qi, ← qs] at hh
  have z1 : ¬ (9223372036854775807 < LV.length + c.size) := by omega
  have z2 : ¬ (9223372036854775807 < LV.length + c.size + LI.length) := by omega
  have z3 : ¬ (9223372036854775807 < LV.length + c.size + LI.length + LS.length) := by omega
  have z4 : ¬ (9223372036854775807 < LV.length + c.size + LI.length + LS.length + 1) := by omega
  clear qv qi qs kv ki ks hv hi hs hc
  go_enter Tryz.func45, Tryz.ntmps45
  go_wp2
  rw [← hw1] at U0 ba
  rw [show w.alloc (.cells #[.int .i64 v, .string c, .int .i64 i, .int .i64 s, .bool false] 38) = w1 from hw1.symm]
  clear hw1
  have q0 := U0 0 _ rfl
  have q1 := U0 1 _ rfl
  have q2 := U0 2 _ rfl
  have q3 := U0 3 _ rfl
  clear U0
  go_region_held (fun w' => Below w1.heap.size w1 w' ∧ w'.cell? ⟨w.heap.size, 0, none⟩ = some (.int .i64 v) ∧ w'.cell? ⟨w.heap.size, 1, none⟩ = some (.string c) ∧ w'.cell? ⟨w.heap.size, 2, none⟩ = some (.int .i64 i) ∧ w'.cell? ⟨w.heap.size, 3, none⟩ = some (.int .i64 s))
    ((refine (fun hb => ⟨hb, cell_lat hb q0, cell_lat hb q1, cell_lat hb q2, cell_lat hb q3⟩) ?_; first | exact bb | exact b_drew w1))
    (first
      | (go_at_call 49; refine (cv _).mono ?_; rintro e w2 ⟨rfl, b2⟩; clear cv; have bb : Below w1.heap.size w1 w2 := (by first | exact chain bb b2 (Nat.le_refl _) | exact below_d b2))
      | (go_at_call 50; refine (ci _).mono ?_; rintro e w2 ⟨rfl, b2⟩; clear ci; have bb : Below w1.heap.size w1 w2 := (by first | exact chain bb b2 (Nat.le_refl _) | exact below_d b2))
      | (go_at_call 50; refine (cs _).mono ?_; rintro e w2 ⟨rfl, b2⟩; clear cs; have bb : Below w1.heap.size w1 w2 := (by first | exact chain bb b2 (Nat.le_refl _) | exact below_d b2)))
  all_goals
    go_wp2
    go_ret
    refine ⟨congrArg (fun z => Ending.returned (Value.string z)) (ba_ext ?_), chain ba bb (Nat.le_refl _)⟩
    show _ = enB _
    rw [hh.out]
    simp [dB]
theorem rbytes_o (e : En) (h : Ok e) (w : World) :
    Calls Tryz.prog 45 #[.agg #[.int .i64 e.v, .string e.c, .int .i64 e.i, .int .i64 e.s, .bool e.d]] w fun r w' => r = .returned (.string ⟨(enB e).toArray⟩) ∧ Below w.heap.size w w' := by
  obtain ⟨v, c, i, s, d⟩ := e
  obtain ⟨⟨h1, h2⟩, ⟨h3, h4⟩, ⟨h5, h6⟩, h7⟩ := h
  obtain ⟨V, rfl⟩ : ∃ V : Nat, v = V := ⟨v.toNat, by dsimp only at *; omega⟩
  obtain ⟨I, rfl⟩ : ∃ I : Nat, i = I := ⟨i.toNat, by dsimp only at *; omega⟩
  obtain ⟨S, rfl⟩ : ∃ S : Nat, s = S := ⟨s.toNat, by dsimp only at *; omega⟩
  dsimp only at *
  cases d
  · exact rbytes_f V I S c w (by omega) (by omega) (by omega) h7
  · exact rbytes_t V I S c w (by omega) (by omega) (by omega) h7
end Go.Proofs.YtjdpolhjbkpnlaaGreatDoor
set_option linter.unusedVariables false
set_option linter.unusedSimpArgs false
namespace Go.Proofs.YtjdpolhjbkpnlaaGreatDoor
open Go.RowKit
theorem store_free (P : Program) (g o : Nat) (t : TypeId) (fz : Nat × Nat) : ∀ (vs : List Value) (i : Nat) (cur : Array Value) (w : World), w.heap[g]? = some (.cells cur t fz) → (cur.size ≤ fz.1 ∨ fz.2 = 0) → o + i + vs.length ≤ cur.size → (∀ v ∈ vs, v.oneCell' = true) →
    (storeCells ⟨g, o, none⟩ vs i).run P w = .ok () (w.setRow g (cur.toList.take (o + i) ++ vs ++ cur.toList.drop (o + i + vs.length)).toArray)
  | [], i, cur, w, hg, _, _, _ => by
    simp only [storeCells, List.append_nil, List.length_nil, Nat.add_zero, List.take_append_drop, Array.toArray_toList]
    rw [setRow_self w g cur t fz hg]; rfl
  | v :: rest, i, cur, w, hg, hfz, hl, h1 => by
    have hi : o + i < cur.size := by simp at hl; omega
    have e1 : (⟨g, o, none⟩ : Addr).add i = ⟨g, o + i, none⟩ := by unfold Addr.add; split <;> simp_all
    have e2 : w.cell? ⟨g, o + i, none⟩ = some cur[o + i] := by simp [World.cell?, hg, hi]
    have e3 : w.frozen? ⟨g, o + i, none⟩ = false := by
      obtain ⟨lo, up⟩ := fz
      simp only [World.frozen?, hg, Bool.and_eq_false_iff, decide_eq_false_iff_not]
      dsimp only at hfz
      omega
    have e4 : (store ((⟨g, o, none⟩ : Addr).add i) v).run P w = .ok () (w.setRow g (cur.setIfInBounds (o + i) v)) := by
      rw [e1, run_store P w _ v _ (h1 v (by simp)), e2]
      simp [e3, setCell_eq_setRow w g (o + i) cur t fz v hg]
    have ih := store_free P g o t fz rest (i + 1) (cur.setIfInBounds (o + i) v) (w.setRow g (cur.setIfInBounds (o + i) v)) (setRow_heap w g cur _ t _ hg) (by simpa using hfz) (by simp at hl ⊢; omega) (fun x hx => h1 x (by simp [hx]))
    simp only [storeCells, Sem.run_bind, e4, Result.andThen_ok, ih, setRow_setRow]
    congr 3
    have e := list_seg_step cur.toList (o + i) v rest (by simp at hl ⊢; omega)
    simpa [Array.toList_setIfInBounds, Nat.add_assoc] using e
/-- A row of bytes, at its block's beginning, that may be written up to its capacity. -/
def WRow (w : World) (v : Value) (l : List UInt8) : Prop := ∃ g cap cur fz, v = .slice (some ⟨g, 0, none⟩) l.length cap ∧ w.heap[g]? = some (.cells cur 5 fz) ∧ (cap ≤ fz.1 ∨ fz.2 = 0) ∧ l.length ≤ cap ∧ cap ≤ maxLen ∧ cur.size = cap ∧ cur.toList.take l.length = l.map BV
theorem WRow.kept {F : Nat → Prop} {w w' : World} {v : Value} {l : List UInt8} (h : WRow w v l) (s : Stay F w w') (hn : ∀ k, v.ownBlock = some k → ¬ F k) : WRow w' v l := by
  obtain ⟨g, cap, cur, fz, h1, h2, h3⟩ := h
  exact ⟨g, cap, cur, fz, h1, (s.block g (Array.getElem?_eq_some_iff.1 h2).1 (hn g (by rw [h1]; rfl))).trans h2, h3⟩
theorem WRow.cell {w : World} {g cap : Nat} {l : List UInt8} (h : WRow w (.slice (some ⟨g, 0, none⟩) l.length cap) l) (j : Nat) (hj : j < l.length) : w.cell? ⟨g, j, none⟩ = some (BV l[j]) := by
  obtain ⟨g', cap', cur, fz, h1, h2, h3, h4, h5, h6, h7⟩ := h
  simp only [Value.slice.injEq, Option.some.injEq, Addr.mk.injEq] at h1
  obtain ⟨⟨rfl, -, -⟩, -, rfl⟩ := h1
  have hjc : j < cur.size := by omega
  have e : cur.toList[j]? = some (BV l[j]) := by
    have := congrArg (·[j]?) h7
    simp only [List.getElem?_take, if_pos hj, List.getElem?_map, List.getElem?_eq_getElem hj, Option.map_some] at this
    exact this
  rw [Array.getElem?_toList] at e
  simp [World.cell?, h2, e]
theorem WRow.append {w : World} {v : Value} {l : List UInt8} (h : WRow w v l) (ty : TypeId) (s : ByteArray) (hb : l.length + s.size ≤ 140737488355328) :
    ∃ v' w', (Builtin.append_ #[98, 9] ty #[v, .string s]).run Tryz.prog w = .ok v' w' ∧ WRow w' v' (l ++ s.data.toList) ∧ Stay (fun k => v.ownBlock = some k) w w' ∧ (∀ k, v'.ownBlock = some k → v.ownBlock = some k ∨ w.heap.size ≤ k) := by
  obtain ⟨i0, hi, hz0, hz1, hz2⟩ := info_parts Tryz.info5
  have hw := h
  obtain ⟨g, cap, cur, fz, rfl, h2, h3, h4, h5, h6, h7⟩ := h
  have hsl : (l ++ s.data.toList).length = l.length + s.size := by rw [List.length_append, nm_size]
  by_cases hroom : l.length + s.size ≤ cap
  · have hf := Lib.run_firstCells_string (P := Tryz.prog) w 1 s
    have hst := store_free Tryz.prog g l.length 5 fz (Lib.strCells s) 0 cur w h2 (by rw [h6]; exact h3) (by simp [Lib.strCells_length]; omega) (Lib.strCells_oneCell s)
    simp only [Nat.add_zero, Lib.strCells_length] at hst
    have hr : (Builtin.append_ #[98, 9] ty #[.slice (some ⟨g, 0, none⟩) l.length cap, .string s]).run Tryz.prog w = .ok (.slice (some ⟨g, 0, none⟩) (l.length + s.size) cap) (w.setRow g (cur.toList.take l.length ++ Lib.strCells s ++ cur.toList.drop (l.length + s.size)).toArray) := by
      simp [Builtin.append_, run_underlying Tryz.underlying98, run_underlying Tryz.underlying9, sizeOf, typeInfo, hi, hz1, Builtin.lenOf, hroom, hf, Addr.add_lit, hst]
    refine ⟨_, _, hr, ⟨g, cap, _, fz, by rw [hsl], setRow_heap w g cur _ 5 _ h2, h3, by rw [hsl]; exact hroom, h5, ?_, ?_⟩, ⟨rfl, rfl, rfl, by simp, fun k _ hk => setRow_other w g k _ (fun e => hk (by simp [Value.ownBlock, e]))⟩, fun k hk => .inl hk⟩
    · simp only [List.size_toArray, List.length_append, List.length_take, List.length_drop, Array.length_toList, Lib.strCells_length]
      omega
    · rw [h7, strCells_BV, ← List.map_append]
      have : ((l ++ s.data.toList).map BV).length = (l ++ s.data.toList).length := by simp
      rw [← this]
      exact List.take_left
  · have holds : ∀ j u, (l.map BV)[j]? = some u → w.cell? ((⟨g, 0, none⟩ : Addr).add j) = some u := fun j u hu => by
      have hj : j < l.length := by
        have := (List.getElem?_eq_some_iff.1 hu).1
        simpa using this
      have e1 : (⟨g, 0, none⟩ : Addr).add j = ⟨g, j, none⟩ := by unfold Addr.add; split <;> simp_all
      rw [e1, hw.cell j hj]
      rw [List.getElem?_map, List.getElem?_eq_getElem hj] at hu
      exact hu
    have hr := Lib.run_append_grow_string (P := Tryz.prog) w 98 9 ty 5 i0 (.int .u8 0) Tryz.underlying98 Tryz.underlying9 hi hz0 ⟨g, 0, none⟩ l.length cap (l.map BV) (by rw [hz1]; simp) holds s (by omega) (by omega) (by rw [hz2]; exact growslice_fits (by omega) (by omega))
    have hge := grownCap_ge w (l.length + s.size) cap 5
    have hcm2 : grownCap w (l.length + s.size) cap 5 ≤ maxLen := grownCap_le_maxLen w (l.length + s.size) cap 5 (by unfold maxLen; omega)
    refine ⟨_, _, hr, ⟨w.heap.size, _, _, (0, 0), by rw [hsl], heap_alloc_last w.drew _, .inr rfl, by rw [hsl]; exact hge, hcm2, ?_, ?_⟩, ⟨rfl, rfl, rfl, by simp, fun k hk _ => Below.heap_alloc w.drew _ k hk⟩, fun k hk => by cases hk; exact .inr (Nat.le_refl _)⟩
    · have hz1' : (Value.int IntKind.u8 0).cells.size = 1 := rfl
      simp only [Array.size_append, List.size_toArray, size_zeroCells, hz1', List.length_map, Lib.strCells_length]
      omega
    · simp only [Array.toList_append, List.append_assoc]
      rw [← List.append_assoc, strCells_BV, ← List.map_append]
      have : ((l ++ s.data.toList).map BV).length = (l ++ s.data.toList).length := by simp
      rw [← this]
      exact List.take_left
theorem WRow.conv {w : World} {v : Value} {l : List UInt8} (h : WRow w v l) : (convert 98 9 v).run Tryz.prog w = .ok (.string ⟨l.toArray⟩) w := by
  have hw := h
  obtain ⟨g, cap, cur, fz, rfl, h2, h3⟩ := h
  refine run_convert_bytes_back w 98 9 5 ⟨g, 0, none⟩ cap l Tryz.underlying98 Tryz.underlying5 Tryz.underlying9 (fun j hj => ?_)
  have e1 : (⟨g, 0, none⟩ : Addr).add j = ⟨g, j, none⟩ := by unfold Addr.add; split <;> simp_all
  rw [e1]; exact hw.cell j hj
/-- []byte(text). -/
theorem bytes_row (w : World) (s : ByteArray) (hs : s.size ≤ 140737488355328) :
    (convert 9 98 (.string s)).run Tryz.prog w = .ok (.slice (some ⟨w.heap.size, 0, none⟩) s.size (grownCap w s.size 0 5)) (Lib.bytesWorld w 5 s) ∧ WRow (Lib.bytesWorld w 5 s) (.slice (some ⟨w.heap.size, 0, none⟩) s.size (grownCap w s.size 0 5)) s.data.toList ∧ Below w.heap.size w (Lib.bytesWorld w 5 s) := by
  have hge := grownCap_ge w s.size 0 5
  have hle := grownCap_le_maxLen w s.size 0 5 (by unfold maxLen; omega)
  have hc : (Lib.bytesCells w 5 s).size = grownCap w s.size 0 5 := by
    unfold Lib.bytesCells
    simp only [Array.size_append, Array.size_map, Array.size_replicate]
    have : s.data.size = s.size := rfl
    omega
  refine ⟨Lib.run_convert_string_bytes w 9 98 5 s Tryz.underlying9 Tryz.underlying98 Tryz.underlying5, ⟨w.heap.size, _, _, _, by rw [nm_size], Lib.bytesWorld_at_new w 5 s, .inl (by dsimp only; omega), by rw [nm_size]; exact hge, hle, hc, ?_⟩, ⟨rfl, rfl, rfl, by rw [Lib.bytesWorld_size]; omega, fun k hk => Lib.bytesWorld_at_old w 5 s k hk⟩⟩
  unfold Lib.bytesCells
  rw [Array.toList_append]
  have e : (s.data.map fun b => Value.int .u8 b.toNat).toList = s.data.toList.map BV := by simp [BV]
  rw [e]
  have : (s.data.toList.map BV).length = s.data.toList.length := by simp
  rw [← this]
  exact List.take_left
end Go.Proofs.YtjdpolhjbkpnlaaGreatDoor
set_option linter.unusedVariables false
set_option linter.unusedSimpArgs false
namespace Go.Proofs.YtjdpolhjbkpnlaaGreatDoor.Rb
open Go.RowKit Go.Proofs.SealMath
/-- A text as a cell. -/
def TV (t : List UInt8) : Value := .string ⟨t.toArray⟩
theorem pkA_map {T : Type} (f : T → List UInt8) : ∀ (r : List T) (a : Nat) (cur : List T), pkA (fun t => t) a (cur.map f) (r.map f) = (pkA f a cur r).map fun p => (p.1, p.2.map f) := by
  have hln : ∀ l : List T, ln (fun t => t) (l.map f) = ln f l := fun l => by
    unfold ln; congr 1
    induction l with
    | nil => rfl
    | cons x l ih => simp [ih]
  intro r
  induction r with
  | nil => intro a cur; cases cur <;> simp [pkA]
  | cons x r ih =>
    intro a cur
    rw [List.map_cons, pkA, pkA, hln]
    split
    · rw [List.map_cons, ← ih, List.length_map]; rfl
    · rw [← ih]; simp
theorem pk_map {T : Type} (f : T → List UInt8) (l : List T) : pk (fun t => t) (l.map f) = (pk f l).map fun p => (p.1, p.2.map f) := pkA_map f l 0 []
/-- A text of a list that lies in memory. -/
structure TAt (w : World) (v : Value) (ts : List (List UInt8)) : Prop where
  row : w.ownsRow 0 9 1 v ts.length (ts.map TV)
theorem TAt.kept {F : Nat → Prop} {w w' : World} {v : Value} {ts : List (List UInt8)} (h : TAt w v ts) (s : Stay F w w') (hn : ∀ k, v.ownBlock = some k → ¬ F k) : TAt w' v ts := ⟨row_kept h.row s hn⟩
theorem TAt.form {w : World} {v : Value} {ts : List (List UInt8)} (h : TAt w v ts) : ∃ a cap, v = .slice a ts.length cap ∧ ts.length ≤ cap ∧ ∀ j (hj : j < ts.length), ∃ g, a = some ⟨g, 0, none⟩ ∧ w.cell? ⟨g, j, none⟩ = some (TV ts[j]) := by
  rcases h.row.2 with ⟨rfl, h0⟩ | ⟨g, cap, cur, rfl, h3, h4, h5, h6⟩
  · exact ⟨none, 0, by rw [h0], by omega, fun j hj => by omega⟩
  · refine ⟨_, cap, rfl, h5, fun j hj => ⟨g, rfl, ?_⟩⟩
    have h7 := h.row.cells (g := g) rfl j (TV ts[j]) (by rw [List.getElem?_map, List.getElem?_eq_getElem hj]; rfl)
    have e1 : (⟨g, 0, none⟩ : Addr).add j = ⟨g, j, none⟩ := by unfold Addr.add; split <;> simp_all
    rw [e1] at h7; exact h7
theorem take_flat (ts : List (List UInt8)) (a k : Nat) (h : a + k < ts.length) : ((ts.drop a).take (k + 1)).flatten = ((ts.drop a).take k).flatten ++ ts[a + k] := by
  have h1 : k < (ts.drop a).length := by simp; omega
  rw [List.take_succ_eq_append_getElem h1]
  simp
theorem flat_le (ts : List (List UInt8)) : ∀ k, (ts.take k).flatten.length ≤ ts.flatten.length := fun k => by
  have : ts.flatten = (ts.take k).flatten ++ (ts.drop k).flatten := by rw [← List.flatten_append, List.take_append_drop]
  rw [this, List.length_append]; omega
set_option maxRecDepth 100000 in
set_option maxHeartbeats 1000000 in
theorem joined_any (ts : List (List UInt8)) (v : Value) (a n : Nat) (w : World) (h : TAt w v ts) (han : a + n ≤ ts.length) (hl : ts.length ≤ 4194304) (hs : ((ts.drop a).take n).flatten.length ≤ 65536) :
    Calls Tryz.prog 51 #[v, .int .i64 a, .int .i64 n] w fun r w' => r = .returned (.string ⟨((ts.drop a).take n).flatten.toArray⟩) ∧ Below w.heap.size w w' := by
  obtain ⟨va, cap, rfl, hcap, hc⟩ := h.form
  have H := Hid.mk h
  have HC := Hid.mk hc
  clear h hc
  go_enter Tryz.func51, Tryz.ntmps51
  have hw3 : IntKind.i64.wrap ((a : Int) + (n : Int)) = (a : Int) + n := by rw [IntKind.wrap_i64]; omega
  go_wp2
  go_loopw [7, 8] (fun bv iv wr => ∃ k : Nat, k ≤ n ∧ iv = .int .i64 ((a + k : Nat) : Int) ∧ wr.ownsRow 0 5 1 bv ((ts.drop a).take k).flatten.length (((ts.drop a).take k).flatten.map BV) ∧ (∀ j, bv.ownBlock = some j → w.heap.size ≤ j) ∧ Below w.heap.size w wr) (fun _ iv _ => a + n - (intOf iv).toNat)
  case atStart => exact ⟨0, Nat.zero_le _, rfl, ⟨rfl, .inl ⟨rfl, rfl⟩⟩, (fun j h => by cases h), Below.refl _ _⟩
  case round =>
    obtain ⟨k, hk, rfl, hrow, hlo, hb⟩ := hrel
    by_cases hlt : k < n
    · have hak : a + k < ts.length := by omega
      obtain ⟨g, hg, hcg⟩ := HC.out (a + k) hak
      subst hg
      have hcw := cell_lat hb hcg
      have hfl := take_flat ts a k hak
      have hle : ((ts.drop a).take (k + 1)).flatten.length ≤ 65536 := by
        have h1 := flat_le ((ts.drop a).take n) (k + 1)
        rw [List.take_take, Nat.min_eq_left (by omega)] at h1
        omega
      obtain ⟨X, hX⟩ : ∃ X, X = ts[a + k] := ⟨_, rfl⟩
      rw [← hX] at hcw hfl
      obtain ⟨L, hL⟩ : ∃ L, L = ((ts.drop a).take k).flatten := ⟨_, rfl⟩
      rw [← hL] at hrow hfl
      have hXs : (⟨X.toArray⟩ : ByteArray).size = X.length := by show X.toArray.size = _; simp
      obtain ⟨v', W4, hr4, ho4, s4, hloc4⟩ := append_str2 wr 98 _ L hrow ⟨X.toArray⟩ (by rw [hfl, List.length_append] at hle; rw [hXs]; omega)
      obtain ⟨ba, bc, hbv, -⟩ := slice_form hrow
      rw [hbv] at hr4
      have i1 : ((a + k : Nat) : Int) < (a : Int) + (n : Int) := by omega
      have i2 : ((a + k : Nat) : Int) < (ts.length : Int) := by omega
      have HL := Hid.mk (And.intro hfl (And.intro ho4 (And.intro s4 (And.intro hloc4 (And.intro hlo hbv)))))
      have HB := Hid.mk (And.intro hb hrow)
      have hcw' : wr.cell? ⟨g, a + k, none⟩ = some (.string ⟨X.toArray⟩) := hcw
      clear hX hL hcw hcg hfl ho4 s4 hloc4 hlo hb hrow hw3
      have hw3 : IntKind.i64.wrap ((a : Int) + (n : Int)) = (a : Int) + n := by rw [IntKind.wrap_i64]; omega
      rw [hbv]
      clear hbv
      go_wp2_with (at_builtin; refine wpList_append_eq rfl _ _ _ _ rfl _ _ _ _ rfl rfl hr4 ?_)
      clear hw3
      refine ⟨⟨k + 1, hlt, ival (by omega), ?_, fun j hj => ?_, ?_⟩, by simp only [intOf]; omega⟩
      · rw [HL.out.1]; exact HL.out.2.1
      · rcases HL.out.2.2.2.1 j hj with h1 | h1
        · exact HL.out.2.2.2.2.1 j h1
        · have := HB.out.1.size; omega
      · exact HB.out.1.trans (HL.out.2.2.1.toBelow (fun j hj e => by have := HL.out.2.2.2.2.1 j e; omega) HB.out.1.size)
    · have e1 : k = n := by omega
      subst e1
      have hcv := conv_own _ hrow
      obtain ⟨ba, bc, hbv, -⟩ := slice_form hrow
      have HB := Hid.mk hb
      obtain ⟨L, hL⟩ : ∃ L, L = ((ts.drop a).take k).flatten := ⟨_, rfl⟩
      rw [← hL] at hcv hbv
      rw [hbv] at hcv ⊢
      have HLL := Hid.mk hL
      clear hL hrow hb hbv hs
      go_wp2
      go_ret
      rw [← HLL.out]
      exact ⟨rfl, HB.out⟩
end Go.Proofs.YtjdpolhjbkpnlaaGreatDoor.Rb
set_option linter.unusedVariables false
set_option linter.unusedSimpArgs false
namespace Go.Proofs.YtjdpolhjbkpnlaaGreatDoor.Rb
open Go.RowKit Go.Proofs.SealMath
def IV (n : Nat) : Value := .int .i64 n
abbrev tid : List UInt8 → List UInt8 := fun t => t
/-- What is known at place i. -/
def FS (T : List (List UInt8)) (i : Nat) (outs : List Nat) (room : Nat) : Prop :=
  (i = 0 ∧ outs = [] ∧ room = 0) ∨ ∃ pre a cur, cur ≠ [] ∧ pk tid T = pre ++ pkA tid a cur (T.drop i) ∧ ln tid cur ≤ 4096 ∧ room = 4096 - ln tid cur ∧ outs = pre.map (·.2.length) ++ [cur.length]
theorem FS.next {T : List (List UInt8)} {i : Nat} {outs : List Nat} {room : Nat} (h : FS T i outs room) (hi : i < T.length) (h1 : 1 ≤ T[i].length) (h2 : T[i].length ≤ 4096) (hr : room < T[i].length) : FS T (i + 1) (outs ++ [1]) (4096 - T[i].length) := by
  have hd : T.drop i = T[i] :: T.drop (i + 1) := List.drop_eq_getElem_cons hi
  have ht : (tid T[i]).length = T[i].length := rfl
  right
  rcases h with ⟨rfl, rfl, rfl⟩ | ⟨pre, a, cur, hne, heq, hle, rfl, rfl⟩
  · refine ⟨[], 0, [T[0]], by simp, ?_, by simpa [ln] using h2, by simp [ln], by simp⟩
    unfold pk
    have : T = T[0] :: T.drop 1 := by simpa using hd
    conv => lhs; rw [this]
    rw [pkA, if_neg (by simp [ln]; omega)]; rfl
  · refine ⟨pre ++ [(a, cur)], a + cur.length, [T[i]], by simp, ?_, by simpa [ln] using h2, by simp [ln], by simp⟩
    rw [heq, hd, pkA, if_pos (by omega)]; simp
theorem FS.more {T : List (List UInt8)} {i : Nat} {outs : List Nat} {room : Nat} (h : FS T i outs room) (hi : i < T.length) (h1 : 1 ≤ T[i].length) (hr : T[i].length ≤ room) : ∃ xs m, outs = xs ++ [m] ∧ m ≤ T.length ∧ FS T (i + 1) (xs ++ [m + 1]) (room - T[i].length) := by
  have hd : T.drop i = T[i] :: T.drop (i + 1) := List.drop_eq_getElem_cons hi
  have ht : (tid T[i]).length = T[i].length := rfl
  rcases h with ⟨rfl, rfl, rfl⟩ | ⟨pre, a, cur, hne, heq, hle, rfl, rfl⟩
  · omega
  · have hm : cur.length ≤ T.length := by
      have h1 := pk_flat tid T
      rw [heq, List.map_append, List.flatten_append, pkA_flat] at h1
      have h2 := congrArg List.length h1
      simp only [List.length_append] at h2
      omega
    refine ⟨_, _, rfl, hm, .inr ⟨pre, a, cur ++ [T[i]], by simp, ?_, by rw [ln_snoc]; omega, by rw [ln_snoc]; omega, by simp⟩⟩
    rw [heq, hd, pkA, if_neg (by omega)]
theorem FS.end {T : List (List UInt8)} {outs : List Nat} {room : Nat} (h : FS T T.length outs room) : outs = (pk tid T).map (·.2.length) := by
  rcases h with ⟨h0, rfl, rfl⟩ | ⟨pre, a, cur, hne, heq, hle, rfl, rfl⟩
  · have : T = [] := List.eq_nil_of_length_eq_zero h0
    rw [this]; rfl
  · rw [heq, List.drop_length, pkA]
    have : cur.isEmpty = false := by cases cur <;> simp_all
    rw [this]; simp
theorem FS.len {T : List (List UInt8)} {i : Nat} {outs : List Nat} {room : Nat} (h : FS T i outs room) (hl : ∀ t ∈ T, t.length ≤ 4096) : outs.length ≤ T.length ∧ room ≤ 4096 := by
  rcases h with ⟨rfl, rfl, rfl⟩ | ⟨pre, a, cur, hne, heq, hle, rfl, rfl⟩
  · exact ⟨by simp, by omega⟩
  · refine ⟨?_, by omega⟩
    have h1 := pk_len tid T hl
    have h2 : pkA tid a cur (T.drop i) ≠ [] := fun e => by
      have := pkA_flat tid (T.drop i) a cur
      rw [e] at this
      simp at this
      exact hne this.1
    have h3 : 0 < (pkA tid a cur (T.drop i)).length := List.length_pos_iff.2 h2
    rw [heq, List.length_append] at h1
    simp; omega
theorem infoI3 : (Tryz.prog.info? 3).map (fun i => (i.zero, i.size, i.bytes)) = some (some (.int .i64 0), 1, 8) := by kernel_rfl
theorem int_app (W : World) (xs : List Nat) (v : Value) (h : W.ownsRow 0 3 1 v xs.length (xs.map IV)) (y : Nat) (hb : xs.length + 1 ≤ 4194304) :
    ∃ v' w', (Builtin.append_ #[64, 64] 64 #[v, .slice (some ⟨W.heap.size, 0, none⟩) 1 1]).run Tryz.prog (W.alloc (.cells #[IV y] 3)) = .ok v' w' ∧ w'.ownsRow 0 3 1 v' (xs ++ [y]).length ((xs ++ [y]).map IV) ∧ Stay (fun k => v.ownBlock = some k) W w' ∧
      (∀ k, v'.ownBlock = some k → v.ownBlock = some k ∨ W.heap.size ≤ k) := by
  obtain ⟨i0, hi, hz0, hz1, hz2⟩ := info_parts infoI3
  have st0 : Stay (fun k => v.ownBlock = some k) W (W.alloc (.cells #[IV y] 3)) := (Stay.refl _ W).alloc _
  obtain ⟨v', w', hr, ho, hg, _, hloc⟩ := run_append_own_at (P := Tryz.prog) (W.alloc (.cells #[IV y] 3)) 0 64 64 3 i0 _ 1 8 Tryz.underlying64 hi hz0 hz1 hz2 rfl (by decide) v xs.length _ (h.alloc _) ⟨W.heap.size, 0, none⟩ 1 1 [IV y] rfl (new_cells W [IV y] 3) (fun u hu => by simp at hu; subst hu; rfl) (by unfold maxLen; omega) (by omega) (Nat.zero_le _)
  refine ⟨v', w', hr, by rw [List.length_append, List.map_append]; exact ho, st0.trans (.grown hg (fun k hk => hk)), fun k hk => ?_⟩
  rcases hloc with hl | hl
  · exact .inl (hl ▸ hk)
  · rw [hl] at hk; cases hk; exact .inr (by simp)
theorem int_set {W : World} {xs : List Nat} {m : Nat} {g cap : Nat} (h : W.ownsRow 0 3 1 (.slice (some ⟨g, 0, none⟩) (xs.length + 1) cap) (xs.length + 1) ((xs ++ [m]).map IV)) (y : Nat) :
    (W.setCell ⟨g, xs.length, none⟩ (IV y)).ownsRow 0 3 1 (.slice (some ⟨g, 0, none⟩) (xs.length + 1) cap) (xs.length + 1) ((xs ++ [y]).map IV) ∧ W.cell? ⟨g, xs.length, none⟩ = some (IV m) ∧ W.frozen? ⟨g, xs.length, none⟩ = false := by
  have hc := h.cells (g := g) rfl xs.length (IV m) (by simp)
  have e1 : (⟨g, 0, none⟩ : Addr).add xs.length = ⟨g, xs.length, none⟩ := by unfold Addr.add; split <;> simp_all
  rw [e1] at hc
  rcases h.2 with ⟨h1, h2⟩ | ⟨g', cap', cur, h1, h2, h3, h4, h5, h6, h7⟩
  · cases h1
  · simp only [Value.slice.injEq, Option.some.injEq, Addr.mk.injEq] at h1
    obtain ⟨⟨rfl, -, -⟩, -, rfl⟩ := h1
    refine ⟨⟨by simp, .inr ⟨g, cap, _, rfl, h2, heap_setCell_same W g xs.length _ _ _ h3, h4, h5, by simpa using h6, ?_⟩⟩, hc, by simp [World.frozen?, h3]⟩
    have h8 : cur.toList.take (xs.length + 1) = xs.map IV ++ [IV m] := by simpa using h7
    rw [Array.toList_setIfInBounds, Nat.mul_one, List.take_set, h8, List.set_append_right _ _ (by simp)]
    simp
set_option maxRecDepth 100000 in
set_option maxHeartbeats 1000000 in
theorem filled_any (T : List (List UInt8)) (v : Value) (w : World) (h : TAt w v T) (hl : T.length ≤ 4000000) (hT : ∀ t ∈ T, 1 ≤ t.length ∧ t.length ≤ 4096) :
    Calls Tryz.prog 48 #[v] w fun r w' => ∃ v', r = .returned v' ∧ w'.ownsRow 0 3 1 v' ((pk tid T).map (·.2.length)).length (((pk tid T).map (·.2.length)).map IV) ∧ (∀ k, v'.ownBlock = some k → w.heap.size ≤ k) ∧ Below w.heap.size w w' := by
  obtain ⟨va, cap, rfl, hcap, hc⟩ := h.form
  have HC := Hid.mk hc
  have HT := Hid.mk hT
  clear h hc hT
  go_enter Tryz.func48, Tryz.ntmps48
  go_wp2
  go_loopw [3, 4, 5] (fun ov rv iv wr => ∃ (i room : Nat) (outs : List Nat), i ≤ T.length ∧ iv = .int .i64 i ∧ rv = .int .i64 room ∧ FS T i outs room ∧ wr.ownsRow 0 3 1 ov outs.length (outs.map IV) ∧ (∀ j, ov.ownBlock = some j → w.heap.size ≤ j) ∧ Below w.heap.size w wr) (fun _ _ iv _ => T.length - (intOf iv).toNat)
  case atStart => exact ⟨0, 0, [], Nat.zero_le _, rfl, rfl, .inl ⟨rfl, rfl, rfl⟩, ⟨rfl, .inl ⟨rfl, rfl⟩⟩, (fun j h => by cases h), Below.refl _ _⟩
  case round =>
    obtain ⟨i, room, outs, hi1, rfl, rfl, hFS, hrow, hlo, hb⟩ := hrel
    by_cases hlt : i < T.length
    · obtain ⟨g, hg, hcg⟩ := HC.out i hlt
      subst hg
      obtain ⟨ht1, ht2⟩ := HT.out T[i] (List.getElem_mem hlt)
      obtain ⟨hol, hroom⟩ := hFS.len (fun t ht => (HT.out t ht).2)
      have hcw : wr.cell? ⟨g, i, none⟩ = some (.string ⟨T[i].toArray⟩) := cell_lat hb hcg
      have hn := fun hr => hFS.next hlt ht1 ht2 hr
      have hm := fun hr => hFS.more hlt ht1 hr
      obtain ⟨X, hX⟩ : ∃ X, X = T[i] := ⟨_, rfl⟩
      rw [← hX] at hcw hn hm ht1 ht2
      have hXs : (⟨X.toArray⟩ : ByteArray).size = X.length := by show X.toArray.size = _; simp
      have i1 : (i : Int) < (T.length : Int) := by omega
      have hgw : g < w.heap.size := World.block_lt_of_cell? w _ hcg
      clear hX hcg hFS
      by_cases hr : room < X.length
      · have hF := hn hr
        have hr' : (room : Int) < (X.length : Int) := by omega
        obtain ⟨v', W4, hr4, ho4, s4, hloc4⟩ := int_app wr outs _ hrow 0 (by omega)
        have b4 : Below w.heap.size w W4 := hb.trans (s4.toBelow (fun k hk e => by have := hlo k e; omega) hb.size)
        have hlo4 : ∀ k, v'.ownBlock = some k → w.heap.size ≤ k := fun k hk => by
          rcases hloc4 k hk with h1 | h1
          · exact hlo k h1
          · have := hb.size; omega
        have hll : (outs ++ [0]).length = outs.length + 1 := by simp
        rw [hll] at ho4
        obtain ⟨g4, c4, rfl⟩ : ∃ g4 c4, v' = .slice (some ⟨g4, 0, none⟩) (outs.length + 1) c4 := by
          rcases ho4.2 with ⟨_, h2⟩ | ⟨g4, c4, _, h1, _⟩
          · omega
          · exact ⟨g4, c4, h1⟩
        obtain ⟨row5, cl5, fz5⟩ := int_set ho4 1
        have hg4 := hlo4 g4 rfl
        have s5 : Stay (· = g4) W4 (W4.setCell ⟨g4, outs.length, none⟩ (IV 1)) := (Stay.refl (· = g4) W4).setCell (p := ⟨g4, outs.length, none⟩) (fun _ => rfl) _
        have b5 : Below w.heap.size w (W4.setCell ⟨g4, outs.length, none⟩ (IV 1)) := b4.trans (s5.toBelow (fun k hk e => by omega) b4.size)
        have hcw0 := (hb.cell (p := ⟨g, i, none⟩) hgw).symm.trans hcw
        have hcw5 := (b5.cell (p := ⟨g, i, none⟩) hgw).trans hcw0
        have e0 : IV 0 = .int .i64 0 := rfl
        have e1 : IV 1 = .int .i64 1 := rfl
        rw [e0] at hr4 cl5
        rw [e1] at hcw5
        have hw3 : IntKind.i64.wrap (outs.length : Int) = outs.length := by rw [IntKind.wrap_i64]; omega
        have hw4 : (outs.length : Int) < (outs.length : Int) + 1 := by omega
        obtain ⟨oa, oc, hov, -⟩ := slice_form hrow
        rw [hov] at hr4 ⊢
        have HR := Hid.mk (And.intro row5 (And.intro hlo4 b5))
        have HF := Hid.mk hF
        clear row5 hlo4 b5 b4 s4 s5 hloc4 ho4 hn hm hF hov hrow hlo hb hll hg4 hcw0 e0 e1
        have hXl : X.length ≤ 4096 := ht2
        go_wp2_with (at_builtin; refine wpList_append_eq rfl _ _ _ _ rfl _ _ _ _ rfl rfl hr4 ?_)
        clear hw3 hw4
        refine ⟨⟨i + 1, 4096 - X.length, outs ++ [1], hlt, ival (by omega), ival (by omega), HF.out, by rw [List.length_append]; exact HR.out.1, HR.out.2.1, HR.out.2.2⟩, by simp only [intOf]; omega⟩
      · obtain ⟨xs, m, hxm, hmT, hF⟩ := hm (by omega)
        subst hxm
        have hr' : (X.length : Int) ≤ (room : Int) := by omega
        have hll : (xs ++ [m]).length = xs.length + 1 := by simp
        rw [hll] at hrow hol
        obtain ⟨g4, c4, hov⟩ : ∃ g4 c4, u3 = .slice (some ⟨g4, 0, none⟩) (xs.length + 1) c4 := by
          rcases hrow.2 with ⟨_, h2⟩ | ⟨g4, c4, _, h1, _⟩
          · omega
          · exact ⟨g4, c4, h1⟩
        subst hov
        obtain ⟨row5, cl5, fz5⟩ := int_set hrow (m + 1)
        have hg4 := hlo g4 rfl
        have s5 : Stay (· = g4) wr (wr.setCell ⟨g4, xs.length, none⟩ (IV (m + 1))) := (Stay.refl (· = g4) wr).setCell (p := ⟨g4, xs.length, none⟩) (fun _ => rfl) _
        have b5 : Below w.heap.size w (wr.setCell ⟨g4, xs.length, none⟩ (IV (m + 1))) := hb.trans (s5.toBelow (fun k hk e => by omega) hb.size)
        have hcw0 := (hb.cell (p := ⟨g, i, none⟩) hgw).symm.trans hcw
        have hcw5 := (b5.cell (p := ⟨g, i, none⟩) hgw).trans hcw0
        have e0 : IV m = .int .i64 m := rfl
        have e1 : IV (m + 1) = .int .i64 ((m : Int) + 1) := rfl
        rw [e0] at cl5
        rw [e1] at hcw5 b5 row5
        have hw3 : IntKind.i64.wrap (xs.length : Int) = xs.length := by rw [IntKind.wrap_i64]; omega
        have hw4 : (xs.length : Int) < (xs.length : Int) + 1 := by omega
        have hmi : (m : Int) ≤ 4000000 := by omega
        have HR := Hid.mk (And.intro row5 (And.intro hlo b5))
        have HF := Hid.mk hF
        clear row5 hlo b5 s5 hn hm hF hrow hb hll hg4 hcw0 e0 e1
        have hXl : X.length ≤ 4096 := ht2
        go_wp2
        clear hw3 hw4
        refine ⟨⟨i + 1, room - X.length, xs ++ [m + 1], hlt, ival (by omega), ival (by omega), HF.out, by rw [List.length_append]; exact HR.out.1, HR.out.2.1, HR.out.2.2⟩, by simp only [intOf]; omega⟩
    · have e1 : i = T.length := by omega
      subst e1
      have ho := hFS.end
      obtain ⟨oa, oc, hov, -⟩ := slice_form hrow
      rw [ho] at hrow
      have HR := Hid.mk (And.intro hrow (And.intro hlo hb))
      have HV := Hid.mk hov
      rw [hov]
      clear hFS ho hrow hlo hb hov
      go_wp2
      go_ret
      exact ⟨_, rfl, by rw [← HV.out]; exact HR.out.1, by rw [← HV.out]; exact HR.out.2.1, HR.out.2.2⟩
end Go.Proofs.YtjdpolhjbkpnlaaGreatDoor.Rb
set_option linter.unusedVariables false
set_option linter.unusedSimpArgs false
namespace Go.Proofs.YtjdpolhjbkpnlaaGreatDoor.Dx
open Go.RowKit Go.Proofs.SealMath
open Go.Proofs.YtjdpolhjbkpnlaaGreatDoor.Rb
/-- What numbers answers. -/
def NmO (b : ByteArray) (n : Nat) (w : World) (r : Ending) (w' : World) : Prop :=
  Below w.heap.size w w' ∧ ((nsD b n 0 = none ∧ r = .returned (.tuple #[.slice none 0 0, .int .i64 0, .bool false])) ∨
    ∃ l q v, nsD b n 0 = some (l, q) ∧ r = .returned (.tuple #[v, .int .i64 (q : Nat), .bool true]) ∧ w'.ownsRow 0 3 1 v l.length (l.map IV) ∧ ∀ k, v.ownBlock = some k → w.heap.size ≤ k)
set_option maxRecDepth 100000 in
set_option maxHeartbeats 4000000 in
theorem rnumbers_any (b : ByteArray) (n : Nat) (w : World) (hb : b.size < 4611686018427387904) (hn : n ≤ 6) :
    Calls Tryz.prog 41 #[.string b, .int .i64 n] w (NmO b n w) := by
  go_enter Tryz.func41, Tryz.ntmps41
  go_wp2
  go_loopw [7, 8, 9] (fun ov av iv wr => ∃ (i a : Nat) (l : List Nat), i ≤ n ∧ iv = .int .i64 i ∧ av = .int .i64 a ∧ a ≤ b.size ∧ l.length = i ∧ nsD b n 0 = (nsD b (n - i) a).map (fun x => (l ++ x.1, x.2)) ∧ wr.ownsRow 0 3 1 ov l.length (l.map IV) ∧ (∀ k, ov.ownBlock = some k → w.heap.size ≤ k) ∧ Below w.heap.size w wr) (fun _ _ iv _ => n - (intOf iv).toNat)
  case atStart => exact ⟨0, 0, [], Nat.zero_le _, rfl, rfl, Nat.zero_le _, rfl, by rw [Nat.sub_zero]; simp, ⟨rfl, .inl ⟨rfl, rfl⟩⟩, (fun j h => by cases h), Below.refl _ _⟩
  case round =>
    obtain ⟨i, a, l, hi1, rfl, rfl, ha, hl, hns, hrow, hlo, hbl⟩ := hrel
    by_cases hlt : i < n
    · obtain ⟨k, hk⟩ : ∃ k, n - i = k + 1 := ⟨n - i - 1, by omega⟩
      have hk2 : n - (i + 1) = k := by omega
      rw [hk, nsD] at hns
      have hcv := rvar_any b a wr hb
      have hat := vA_at b a
      obtain ⟨⟨V, Q, E⟩, hP⟩ : ∃ P, P = vA b (a : Int) := ⟨_, rfl⟩
      rw [← hP] at hns hcv hat
      dsimp only at hns hcv hat
      clear hP hk
      have i1 : (i : Int) < (n : Int) := by omega
      by_cases hE : E = 0
      · subst hE
        obtain ⟨hV1, hQ1, hQ2⟩ := hat rfl
        by_cases hV : V ≤ 4611686018427387904
        · rw [if_pos ⟨rfl, hV⟩] at hns
          have hv2 : ¬ (4611686018427387904 < V) := by omega
          have hw : IntKind.i64.wrap (V : Int) = (V : Int) := by rw [IntKind.wrap_i64]; omega
          have hns2 : nsD b n 0 = (nsD b (n - (i + 1)) Q).map (fun x => ((l ++ [V]) ++ x.1, x.2)) := by
            rw [hns, hk2, Option.map_map]
            congr 1
            funext x
            simp
          obtain ⟨v', w4, hr4, ho4, s4, hloc4⟩ := int_app wr l _ hrow V (by omega)
          have b4 : Below w.heap.size w w4 := hbl.trans (s4.toBelow (fun k hk e => by have := hlo k e; omega) hbl.size)
          have hlo4 : ∀ k, v'.ownBlock = some k → w.heap.size ≤ k := fun k hk => by
            rcases hloc4 k hk with h1 | h1
            · exact hlo k h1
            · have := hbl.size; omega
          have e0 : IV V = .int .i64 V := rfl
          rw [e0] at hr4
          obtain ⟨oa, oc, hov, -⟩ := slice_form hrow
          rw [hov] at hr4 ⊢
          have HR := Hid.mk (And.intro ho4 (And.intro hlo4 (And.intro b4 (And.intro hns2 hl))))
          clear ho4 hlo4 b4 hns2 hns hrow hlo hbl hov s4 hloc4 e0 hat hk2 hl
          go_wp2_with (first | (go_at_call 82; refine hcv.mono ?_; clear hcv; rintro e w' ⟨rfl, rfl⟩) | (at_builtin; refine wpList_append_eq rfl _ _ _ _ rfl _ _ _ _ rfl rfl hr4 ?_))
          refine ⟨⟨i + 1, Q, l ++ [V], hlt, ival (by omega), rfl, hQ2, by rw [List.length_append, HR.out.2.2.2.2]; rfl, HR.out.2.2.2.1, HR.out.1, HR.out.2.1, HR.out.2.2.1⟩, by simp only [intOf]; omega⟩
        · rw [if_neg (fun h => hV h.2)] at hns
          have hv2 : 4611686018427387904 < V := by omega
          have HR := Hid.mk (And.intro hns hbl)
          clear hns hrow hlo hbl hat hk2 hl hV
          go_wp2_with (go_at_call 82; refine hcv.mono ?_; clear hcv; rintro e w' ⟨rfl, rfl⟩)
          go_ret3
          exact ⟨HR.out.2, .inl ⟨HR.out.1, rfl⟩⟩
      · rw [if_neg (fun h => hE h.1)] at hns
        have hne : (E != 0) = true := by simpa using hE
        have HR := Hid.mk (And.intro hns hbl)
        clear hns hrow hlo hbl hat hk2 hl
        go_wp2_with (go_at_call 82; refine hcv.mono ?_; clear hcv; rintro e w' ⟨rfl, rfl⟩)
        go_ret3
        exact ⟨HR.out.2, .inl ⟨HR.out.1, rfl⟩⟩
    · have e1 : i = n := by omega
      subst e1
      rw [Nat.sub_self, nsD] at hns
      simp only [Option.map_some, List.append_nil] at hns
      obtain ⟨oa, oc, hov, -⟩ := slice_form hrow
      have HR := Hid.mk (And.intro hns (And.intro hrow (And.intro hlo hbl)))
      have HV := Hid.mk hov
      rw [hov]
      clear hns hrow hlo hbl hov
      go_wp2
      go_ret3
      exact ⟨HR.out.2.2.2, .inr ⟨l, a, _, HR.out.1, rfl, by rw [← HV.out]; exact HR.out.2.1, by rw [← HV.out]; exact HR.out.2.2.1⟩⟩
end Go.Proofs.YtjdpolhjbkpnlaaGreatDoor.Dx
set_option linter.unusedVariables false
set_option linter.unusedSimpArgs false
namespace Go.Proofs.YtjdpolhjbkpnlaaGreatDoor
open Go.RowKit Go.Proofs.SealMath
theorem rwidth_any (x : Int) (w : World) :
    Calls Tryz.prog 42 #[.int .i64 x] w fun e w' => e = .returned (.bool (isW x)) ∧ w' = w := by
  go_enter Tryz.func42, Tryz.ntmps42
  go_wp2
  all_goals go_ret
  · exact ⟨ret_bool (isW_pos ‹_› ‹_›).symm, rfl⟩
  · exact ⟨ret_bool (isW_big ‹_›).symm, rfl⟩
  · exact ⟨ret_bool (isW_small ‹_›).symm, rfl⟩
set_option maxHeartbeats 1000000 in
set_option maxRecDepth 100000 in
theorem rless_any (a b : En) (w : World) :
    Calls Tryz.prog 32 #[.agg (enC a).toArray, .agg (enC b).toArray] w fun r w' => r = .returned (.bool (lsB a b)) ∧ Below w.heap.size w w' := by
  obtain ⟨v, c, i, s, d⟩ := a
  obtain ⟨v', c', i', s', d'⟩ := b
  have bA : Below w.heap.size w ((w.alloc (.cells #[.int .i64 v, .string c, .int .i64 i, .int .i64 s, .bool d] 38)).alloc (.cells #[.int .i64 v', .string c', .int .i64 i', .int .i64 s', .bool d'] 38)) := ((Below.refl _ w).alloc (Nat.le_refl _) _).alloc (by simp) _
  unfold lsB
  simp only [enC]
  by_cases h1 : v = v'
  · rw [if_pos h1]
    have h1' : (v != v') = false := by simp [h1]
    by_cases h2 : c = c'
    · rw [if_pos h2]
      subst h2
      clear h1
      have h2' : (c.toList == c.toList) = true := by simp
      go_enter Tryz.func32, Tryz.ntmps32
      go_wp2
      go_ret
      exact ⟨ret_bool rfl, bA⟩
    · rw [if_neg h2]
      have h2' : (c.toList == c'.toList) = false := by
        rw [ByteArray.toList_eq, ByteArray.toList_eq]
        exact beq_false_of_ne (fun h => h2 (ba_ext h))
      have h3 : Op.bytesLess c.data.toList c'.data.toList = Op.bytesLess c.toList c'.toList := by rw [ByteArray.toList_eq, ByteArray.toList_eq]
      rw [h3]
      clear h1 h2 h3
      go_enter Tryz.func32, Tryz.ntmps32
      go_wp2
      go_ret
      exact ⟨ret_bool rfl, bA⟩
  · rw [if_neg h1]
    have h1' : (v != v') = true := by simpa using h1
    clear h1
    go_enter Tryz.func32, Tryz.ntmps32
    go_wp2
    go_ret
    exact ⟨ret_bool rfl, bA⟩
set_option maxHeartbeats 1000000 in
set_option maxRecDepth 100000 in
theorem rone_any (h : Hd) (e : En) (w : World) (hw : isW h.w = true) (hb : 1 ≤ h.b ∧ h.b ≤ 32) :
    Calls Tryz.prog 84 #[.agg (hdC h).toArray, .agg (enC e).toArray] w fun r w' => r = .returned (.int .i64 (enE h e)) ∧ Below w.heap.size w w' := by
  obtain ⟨wd, t, b, lo, hi, n⟩ := h
  obtain ⟨v, c, i, s, d⟩ := e
  dsimp only at hw hb
  have hwb := isW_bd hw
  have bA : Below w.heap.size w ((w.alloc (.cells #[.int .i64 wd, .int .i64 t, .int .i64 b, .int .i64 lo, .int .i64 hi, .int .i64 n] 31)).alloc (.cells #[.int .i64 v, .string c, .int .i64 i, .int .i64 s, .bool d] 38)) := ((Below.refl _ w).alloc (Nat.le_refl _) _).alloc (by simp) _
  obtain ⟨B, rfl⟩ : ∃ B : Nat, b = B := ⟨b.toNat, by omega⟩
  obtain ⟨p1, p2, p3⟩ := shl_pow B (by omega)
  have hu : IntKind.u64.wrap (B : Int) = B := by rw [IntKind.wrap_u64]; omega
  have hB64 : (B : Int) < 64 := by omega
  unfold enE
  simp only [hdC, enC, Int.toNat_natCast]
  by_cases hs : (c.size : Int) = wd / 8
  · have hs' : ((c.size : Int) != wd / 8) = false := by simpa using hs
    rw [if_pos hs]
    clear hs hw
    obtain ⟨Q, hQ⟩ : ∃ Q : Int, Q = 2 ^ B := ⟨_, rfl⟩
    have hB : (0 : Int) ≤ (B : Int) := by omega
    go_enter Tryz.func84, Tryz.ntmps84
    by_cases hv : v < 0
    · go_wp2
      all_goals first
        | (go_ret; exact ⟨ret_int (by first | rfl | rw [if_neg (by omega)]), bA⟩)
        | (go_quiet (fail); go_wp2; go_ret; exact ⟨ret_int (by first | rfl | rw [if_neg (by omega)]), bA.trans (Drew.below ⟨_, rfl⟩ _)⟩)
    · have hv' : 0 ≤ v := by omega
      go_wp2
      all_goals go_ret
      all_goals first | refine ⟨ret_int ?_, bA⟩ | refine ⟨ret_int ?_, bA.drew⟩
      all_goals first
        | rfl
        | rw [if_neg (by omega)]
        | (rw [if_pos (by omega), if_neg (by omega)])
        | (rw [if_pos (by omega), if_pos (by omega), if_neg (by omega)])
        | (rw [if_pos (by omega), if_pos (by omega), if_pos (by omega)])
  · have hs' : ((c.size : Int) != wd / 8) = true := by simpa using hs
    rw [if_neg hs]
    clear hs hw
    go_enter Tryz.func84, Tryz.ntmps84
    go_wp2
    go_ret
    exact ⟨rfl, bA⟩
set_option maxHeartbeats 1000000 in
set_option maxRecDepth 100000 in
theorem rgoes_no (h : Hd) (l : List En) (la : Option Addr) (cap : Nat) (w : World) (hh : hdE h ≠ 0) :
    Calls Tryz.prog 44 #[.agg (hdC h).toArray, .slice la l.length cap] w fun r w' => r = .returned (.int .i64 (bdE h l)) ∧ Below w.heap.size w w' := by
  have e1 : bdE h l = hdE h := by unfold bdE; rw [if_neg hh]
  rw [e1]
  have bA : Below w.heap.size w (w.alloc (.cells (hdC h).toArray 31)) := (Below.refl _ w).alloc (Nat.le_refl _) _
  obtain ⟨wd, t, b, lo, hi, n⟩ := h
  simp only [hdC] at bA ⊢
  cases hW : isW wd
  · have e2 : hdE ⟨wd, t, b, lo, hi, n⟩ = 10 := hdE10 hW
    rw [e2]
    clear hh e1 e2
    have HW := Hid.mk hW
    clear hW
    go_enter Tryz.func44, Tryz.ntmps44
    go_wp2_with (go_at_call 42; refine (rwidth_any _ _).mono ?_; rintro e w' ⟨rfl, rfl⟩; rw [HW.out])
    go_ret
    exact ⟨rfl, bA⟩
  · have h3 : ¬ ((0 ≤ t ∧ t ≤ 127) ∧ (1 ≤ b ∧ b ≤ 32) ∧ 0 ≤ lo ∧ lo ≤ hi ∧ hi ≤ 1152921504606846976) := fun h3 => hh (by unfold hdE; rw [if_pos hW, if_pos h3])
    have e2 : hdE ⟨wd, t, b, lo, hi, n⟩ = 13 := by unfold hdE; rw [if_pos hW, if_neg h3]
    rw [e2]
    clear hh e1 e2
    have HW := Hid.mk hW
    clear hW
    go_enter Tryz.func44, Tryz.ntmps44
    go_wp2_with (go_at_call 42; refine (rwidth_any _ _).mono ?_; rintro e w' ⟨rfl, rfl⟩; rw [HW.out])
    all_goals first | (go_ret; exact ⟨rfl, bA⟩) | (exfalso; omega)
end Go.Proofs.YtjdpolhjbkpnlaaGreatDoor
