/-
  DERIVED. A head as bytes: the program's.
-/
import Derived.Test.YtdegclccbgpgiaaDoorBBytes2
set_option linter.unusedVariables false
set_option linter.unusedSimpArgs false
namespace Go.Proofs.YtdegclccbgpgiaaDoor
open Go.RowKit Go.Proofs.SealMath
theorem number_e (n : Nat) (w : World) (hn : n < 9223372036854775808) (L : List UInt8) (hL : L = pvL 9 n) :
    Calls Tryd.prog 51 #[.int .i64 n] w fun e w' => e = .returned (.string ⟨L.toArray⟩) ∧ Below w.heap.size w w' :=
  (number_x n w hn).mono fun e w' h => by
    obtain ⟨X, h1, _, h2, h3⟩ := h
    have : X = ⟨L.toArray⟩ := ba_ext (by rw [h2.out, hL])
    rw [← this]; exact ⟨h1, h3⟩
theorem six_fin {h : Hd} {n : Nat} {LA LB LC LD LE LF : List UInt8} (e : Hid (LA ++ (LB ++ (LC ++ (LD ++ (LE ++ LF)))) = hdB h n)) (w w' : World) (hb : Below w.heap.size w w') :
    ∃ X : ByteArray, Ending.returned (.string ((⟨LA.toArray⟩ : ByteArray) ++ ⟨LB.toArray⟩ ++ ⟨LC.toArray⟩ ++ ⟨LD.toArray⟩ ++ ⟨LE.toArray⟩ ++ ⟨LF.toArray⟩)) = .returned (.string X) ∧ X.size ≤ 60 ∧ Hid (X.data.toList = hdB h n) ∧ Below w.heap.size w w' := by
  have e1 : ((⟨LA.toArray⟩ : ByteArray) ++ ⟨LB.toArray⟩ ++ ⟨LC.toArray⟩ ++ ⟨LD.toArray⟩ ++ ⟨LE.toArray⟩ ++ ⟨LF.toArray⟩).data.toList = hdB h n := by rw [← e.out]; simp
  refine ⟨_, rfl, ?_, e1, hb⟩
  have := hdB_len h n
  rw [← e1, cl] at this
  exact this
set_option maxHeartbeats 8000000 in
set_option maxRecDepth 100000 in
theorem head_x (a b c d e f : Nat) (w : World) (ha : a < 9223372036854775808) (hb : b < 9223372036854775808) (hc : c < 9223372036854775808) (hd : d < 9223372036854775808) (he : e < 9223372036854775808) (hf : f < 9223372036854775808) (x : Int) :
    Calls Tryd.prog 43 #[.agg #[.int .i64 a, .int .i64 b, .int .i64 c, .int .i64 d, .int .i64 e, .int .i64 f]] w fun r w' => ∃ X : ByteArray, r = .returned (.string X) ∧ X.size ≤ 60 ∧ Hid (X.data.toList = hdB ⟨a, b, c, d, e, x⟩ f) ∧ Below w.heap.size w w' := by
  have hh : Hid (pvL 9 a ++ (pvL 9 b ++ (pvL 9 c ++ (pvL 9 d ++ (pvL 9 e ++ pvL 9 f)))) = hdB ⟨a, b, c, d, e, x⟩ f) := rfl
  have U0 := SAt.new w [.int .i64 a, .int .i64 b, .int .i64 c, .int .i64 d, .int .i64 e, .int .i64 f] 23
  have ba : Below w.heap.size w (w.alloc (.cells #[.int .i64 a, .int .i64 b, .int .i64 c, .int .i64 d, .int .i64 e, .int .i64 f] 23)) := (Below.refl _ w).alloc (Nat.le_refl _) _
  obtain ⟨w1, hw1⟩ : ∃ w1, w1 = w.alloc (.cells #[.int .i64 a, .int .i64 b, .int .i64 c, .int .i64 d, .int .i64 e, .int .i64 f] 23) := ⟨_, rfl⟩
  obtain ⟨LA, qa⟩ : ∃ L, L = pvL 9 a := ⟨_, rfl⟩
  have ka : LA.length ≤ 10 := by rw [qa]; exact (pvL_len 9 a).2
  have ca := fun W => number_e a W ha LA qa
  obtain ⟨LB, qb⟩ : ∃ L, L = pvL 9 b := ⟨_, rfl⟩
  have kb : LB.length ≤ 10 := by rw [qb]; exact (pvL_len 9 b).2
  have cb := fun W => number_e b W hb LB qb
  obtain ⟨LC, qc⟩ : ∃ L, L = pvL 9 c := ⟨_, rfl⟩
  have kc : LC.length ≤ 10 := by rw [qc]; exact (pvL_len 9 c).2
  have cc := fun W => number_e c W hc LC qc
  obtain ⟨LD, qd⟩ : ∃ L, L = pvL 9 d := ⟨_, rfl⟩
  have kd : LD.length ≤ 10 := by rw [qd]; exact (pvL_len 9 d).2
  have cd := fun W => number_e d W hd LD qd
  obtain ⟨LE, qe⟩ : ∃ L, L = pvL 9 e := ⟨_, rfl⟩
  have ke : LE.length ≤ 10 := by rw [qe]; exact (pvL_len 9 e).2
  have ce := fun W => number_e e W he LE qe
  obtain ⟨LF, qf⟩ : ∃ L, L = pvL 9 f := ⟨_, rfl⟩
  have kf : LF.length ≤ 10 := by rw [qf]; exact (pvL_len 9 f).2
  have cf := fun W => number_e f W hf LF qf
  rw [← qa, ← qb, ← qc, ← qd, ← qe, ← qf] at hh
  clear qa qb qc qd qe qf
  have z1 : ¬ (9223372036854775807 < LA.length + LB.length) := by omega
  have z2 : ¬ (9223372036854775807 < LA.length + LB.length + LC.length) := by omega
  have z3 : ¬ (9223372036854775807 < LA.length + LB.length + LC.length + LD.length) := by omega
  have z4 : ¬ (9223372036854775807 < LA.length + LB.length + LC.length + LD.length + LE.length) := by omega
  have z5 : ¬ (9223372036854775807 < LA.length + LB.length + LC.length + LD.length + LE.length + LF.length) := by omega
  clear ka kb kc kd ke kf ha hb hc hd he hf
  go_enter Tryd.func43, Tryd.ntmps43
  go_wp2
  rw [← hw1] at U0 ba
  rw [show w.alloc (.cells #[.int .i64 a, .int .i64 b, .int .i64 c, .int .i64 d, .int .i64 e, .int .i64 f] 23) = w1 from hw1.symm]
  clear hw1
  have q0 := U0 0 _ rfl
  have q1 := U0 1 _ rfl
  have q2 := U0 2 _ rfl
  have q3 := U0 3 _ rfl
  have q4 := U0 4 _ rfl
  have q5 := U0 5 _ rfl
  clear U0
  go_region_held (fun w' => Below w1.heap.size w1 w' ∧ w'.cell? ⟨w.heap.size, 0, none⟩ = some (.int .i64 a) ∧ w'.cell? ⟨w.heap.size, 1, none⟩ = some (.int .i64 b) ∧ w'.cell? ⟨w.heap.size, 2, none⟩ = some (.int .i64 c) ∧ w'.cell? ⟨w.heap.size, 3, none⟩ = some (.int .i64 d) ∧ w'.cell? ⟨w.heap.size, 4, none⟩ = some (.int .i64 e) ∧ w'.cell? ⟨w.heap.size, 5, none⟩ = some (.int .i64 f))
    ((refine (fun hb => ⟨hb, cell_lat hb q0, cell_lat hb q1, cell_lat hb q2, cell_lat hb q3, cell_lat hb q4, cell_lat hb q5⟩) ?_; first | exact bb | exact b_drew w1))
    (first
      | (go_at_call 51; refine (ca _).mono ?_; rintro e w2 ⟨rfl, b2⟩; clear ca; have bb : Below w1.heap.size w1 w2 := (by first | exact chain bb b2 (Nat.le_refl _) | exact below_d b2))
      | (go_at_call 51; refine (cb _).mono ?_; rintro e w2 ⟨rfl, b2⟩; clear cb; have bb : Below w1.heap.size w1 w2 := (by first | exact chain bb b2 (Nat.le_refl _) | exact below_d b2))
      | (go_at_call 51; refine (cc _).mono ?_; rintro e w2 ⟨rfl, b2⟩; clear cc; have bb : Below w1.heap.size w1 w2 := (by first | exact chain bb b2 (Nat.le_refl _) | exact below_d b2))
      | (go_at_call 51; refine (cd _).mono ?_; rintro e w2 ⟨rfl, b2⟩; clear cd; have bb : Below w1.heap.size w1 w2 := (by first | exact chain bb b2 (Nat.le_refl _) | exact below_d b2))
      | (go_at_call 51; refine (ce _).mono ?_; rintro e w2 ⟨rfl, b2⟩; clear ce; have bb : Below w1.heap.size w1 w2 := (by first | exact chain bb b2 (Nat.le_refl _) | exact below_d b2))
      | (go_at_call 51; refine (cf _).mono ?_; rintro e w2 ⟨rfl, b2⟩; clear cf; have bb : Below w1.heap.size w1 w2 := (by first | exact chain bb b2 (Nat.le_refl _) | exact below_d b2)))
  all_goals
    go_wp2
    go_ret
    exact six_fin hh _ _ (chain ba bb (Nat.le_refl _))
end Go.Proofs.YtdegclccbgpgiaaDoor
