/-
  DERIVED. What a frame says: unpack; Read.
-/
import Derived.Test.YtbfgnfnihnmjbaaDoorJWrite
import Derived.Test.YtbfgnfnihnmjbaaDoorSParse
import Derived.Test.YtbfgnfnihnmjbaaDoorSPm
import Derived.Handy
set_option linter.unusedVariables false
set_option linter.unusedSimpArgs false
namespace Go.Proofs.YtbfgnfnihnmjbaaDoor
open Go.RowKit Go.Proofs.SealMath
/-- An update. -/
structure Up where
  s : Nat
  k : Nat
  i : Nat
  c : List UInt8
abbrev up0 : Up := ⟨0, 0, 0, []⟩
abbrev upV (u : Up) : Array Value := uC u.s u.k u.i ⟨u.c.toArray⟩
/-- What a frame of this kind and payload says. -/
def unA (k : Nat) (b : ByteArray) (x : Int) : Up × Int :=
  if k = 1 ∨ k = 2 then
    if (vA b 0).2.2 = 0 then
      if 1 ≤ (vA b 0).1 ∧ (vA b 0).1 ≤ 1152921504606846976 then
        if (vA b (vA b 0).2.1).2.2 = 0 then
          if (vA b (vA b 0).2.1).1 ≤ 281474976710656 then
            if fitB k (b.size - (vA b (vA b 0).2.1).2.1) x = true then (⟨(vA b 0).1, k, (vA b (vA b 0).2.1).1, b.data.toList.drop (vA b (vA b 0).2.1).2.1⟩, 0)
            else (up0, 11)
          else (up0, 60)
        else (up0, (vA b (vA b 0).2.1).2.2)
      else (up0, 51)
    else (up0, (vA b 0).2.2)
  else (up0, 35)
/-- .. and may be written. -/
structure UFr (w : World) (g : Nat) : Prop where
  f0 : w.frozen? ⟨g, 0, none⟩ = false
  f1 : w.frozen? ⟨g, 1, none⟩ = false
  f2 : w.frozen? ⟨g, 2, none⟩ = false
  f3 : w.frozen? ⟨g, 3, none⟩ = false
theorem UFr.new (w : World) (s k i : Int) (c : ByteArray) : UFr (w.alloc (.cells (uC s k i c) 23)) w.heap.size := by
  have h : ∀ j, (w.alloc (.cells (uC s k i c) 23)).frozen? ⟨w.heap.size, j, none⟩ = false := fun j => by
    unfold World.frozen?
    rw [heap_alloc_last]
    simp
  exact ⟨h 0, h 1, h 2, h 3⟩
theorem UFr.below {w w' : World} {g B : Nat} (h : UFr w g) (b : Below B w w') (hg : g < B) : UFr w' g :=
  ⟨(b.frozen (p := ⟨g, 0, none⟩) hg).trans h.f0, (b.frozen (p := ⟨g, 1, none⟩) hg).trans h.f1, (b.frozen (p := ⟨g, 2, none⟩) hg).trans h.f2, (b.frozen (p := ⟨g, 3, none⟩) hg).trans h.f3⟩
theorem vA_lt (b : ByteArray) (p : Nat) (h : (vA b p).2.2 = 0) : (vA b p).1 < 18446744073709551616 ∧ (vA b p).2.1 ≤ b.size := by
  obtain ⟨a, c, d⟩ := vA_only b p (vA b p).1 (vA b p).2.1 (by rw [← h])
  exact ⟨a, d.2⟩
theorem var_at (b : ByteArray) (p : Nat) (w : World) (hb : b.size < 4611686018427387904) (v q : Nat) (e : Int) (h : vA b p = (v, q, e)) :
    Calls Tryd.prog 71 #[.string b, .int .i64 p] w fun r w' => r = .returned (.tuple #[.int .u64 v, .int .i64 q, .int .i64 e]) ∧ w' = w := by
  have := var_any b p w hb
  rw [h] at this
  exact this
theorem ret_upd {fn : Func} {a b : Value} {r r' : Value} (h : a = b) : Ending.returned (.tuple #[a, r]) = .returned (.tuple #[b, r]) := by rw [h]
set_option maxHeartbeats 4000000 in
set_option maxRecDepth 100000 in
theorem unpack_kind (k : Nat) (b : ByteArray) (x : Int) (w : World) (hk : ¬ (k = 1 ∨ k = 2)) :
    Calls Tryd.prog 36 #[.int .i64 k, .string b, .int .i64 x] w fun e w' => e = .returned (.tuple #[.agg (upV up0), .int .i64 35]) ∧ Below w.heap.size w w' := by
  have h2' : decide ((k : Int) = 1 ∨ (k : Int) = 2) = false := decide_eq_false (by omega)
  go_enter Tryd.func36, Tryd.ntmps36
  go_wp2_with first
    | (go_at_call 29; refine (isKind_any _ _).mono ?_; rintro e w' ⟨rfl, rfl⟩; rw [h2'])
  refine bodyPost_ret (v := .tuple #[.agg (upV up0), .int .i64 35]) (by simp [results, Tryd.results36, go_sem]; try rfl) rfl ?_
  exact ⟨rfl, (Below.refl _ w).alloc (Nat.le_refl _) _⟩
set_option maxHeartbeats 4000000 in
set_option maxRecDepth 100000 in
theorem unpack_all (k : Nat) (b : ByteArray) (x : Int) (w : World) (hb : b.size < 4611686018427387904) (hk : k = 1 ∨ k = 2) (v q : Nat) (e1 : Int) (hv : vA b 0 = (v, q, e1)) (hv2 : e1 = 0 → v < 18446744073709551616)
    (i at_ : Nat) (e2 : Int) (hi : vA b q = (i, at_, e2)) (hi2 : e2 = 0 → i < 18446744073709551616 ∧ at_ ≤ b.size) (E : Up × Int)
    (hE : E = if e1 = 0 then if 1 ≤ v ∧ v ≤ 1152921504606846976 then if e2 = 0 then if i ≤ 281474976710656 then if fitB k (b.size - at_) x = true then (⟨v, k, i, b.data.toList.drop at_⟩, 0) else (up0, 11) else (up0, 60) else (up0, e2) else (up0, 51) else (up0, e1)) :
    Calls Tryd.prog 36 #[.int .i64 k, .string b, .int .i64 x] w fun e w' => e = .returned (.tuple #[.agg (upV E.1), .int .i64 E.2]) ∧ Below w.heap.size w w' := by
  have h2' : decide ((k : Int) = 1 ∨ (k : Int) = 2) = true := decide_eq_true (by omega)
  have c1 := fun W => var_at b 0 W hb v q e1 hv
  have c2 := fun W => var_at b q W hb i at_ e2 hi
  have hn : Below w.heap.size w (w.alloc (.cells (upV up0) 23)) := (Below.refl _ w).alloc (Nat.le_refl _) _
  clear hv hi
  by_cases he : e1 = 0
  · rw [if_pos he] at hE
    have hv3 := hv2 he
    clear hv2
    subst he
    by_cases h1 : 1 ≤ v ∧ v ≤ 1152921504606846976
    · rw [if_pos h1] at hE
      have h1' : decide (1 ≤ (v : Int) ∧ (v : Int) ≤ 1152921504606846976) = true := decide_eq_true (by omega)
      by_cases he2 : e2 = 0
      · rw [if_pos he2] at hE
        obtain ⟨hi3, hi4⟩ := hi2 he2
        clear hi2
        subst he2
        by_cases h3 : i ≤ 281474976710656
        · rw [if_pos h3] at hE
          have h3' : decide (0 ≤ (i : Int) ∧ (i : Int) ≤ 281474976710656) = true := decide_eq_true (by omega)
          have hsz : (b.extract at_ b.size).size = b.size - at_ := by rw [ByteArray.size_extract]; omega
          have c4 := fun W => fits_any v k i (b.extract at_ b.size) x W
          rw [hsz] at c4
          have hcl : (b.extract at_ b.size) = ⟨(b.data.toList.drop at_).toArray⟩ := by
            apply ByteArray.ext
            rw [ByteArray.data_extract]
            apply Array.toList_inj.1
            rw [Array.toList_extract]
            simp [List.extract, List.take_of_length_le]
          have HC : Hid _ := hcl
          clear hcl hsz
          obtain ⟨C, hC⟩ : ∃ C : ByteArray, C = b.extract at_ b.size := ⟨_, rfl⟩
          rw [← hC] at c4 HC
          have U0 := UAt.new w 0 0 0 ⟨#[]⟩
          have F0 := UFr.new w 0 0 0 ⟨#[]⟩
          have U1 := UAt.new (w.alloc (.cells (uC 0 0 0 ⟨#[]⟩) 23)) v k i C
          have b0 : Below (w.alloc (.cells (uC 0 0 0 ⟨#[]⟩) 23)).heap.size (w.alloc (.cells (uC 0 0 0 ⟨#[]⟩) 23)) ((w.alloc (.cells (uC 0 0 0 ⟨#[]⟩) 23)).alloc (.cells (uC v k i C) 23)) := (Below.refl _ _).alloc (Nat.le_refl _) _
          rw [World.size_alloc] at U1
          cases hf : fitB k (b.size - at_) x
          · rw [hf] at c4
            rw [if_neg (by rw [hf]; exact Bool.false_ne_true)] at hE
            subst hE
            clear hf
            go_enter Tryd.func36, Tryd.ntmps36
            go_wp2_with first
              | (go_at_call 29; refine (isKind_any _ _).mono ?_; rintro e w' ⟨rfl, rfl⟩; rw [h2'])
              | (go_at_call 71; refine (c1 _).mono ?_; rintro e w' ⟨rfl, rfl⟩; clear c1)
              | (go_at_call 28; refine (isSeq_any _ _).mono ?_; rintro e w' ⟨rfl, rfl⟩; rw [h1'])
              | (go_at_call 71; refine (c2 _).mono ?_; rintro e w' ⟨rfl, rfl⟩; clear c2)
              | (go_at_call 30; refine (isID_any _ _).mono ?_; rintro e w' ⟨rfl, rfl⟩; rw [h3'])
              | (go_at_call 31; rw [← hC]; refine (c4 _).mono ?_; rintro e w1 ⟨rfl, b1⟩; clear c4; obtain ⟨q0, q1, q2, q3⟩ := (U0.below b0 (by simp)).below b1 (by simp; omega); obtain ⟨f0, f1, f2, f3⟩ := (F0.below b0 (by simp)).below b1 (by simp; omega); obtain ⟨r0, r1, r2, r3⟩ := U1.below b1 (by simp); have bb := chain (chain hn b0 (Nat.le_refl _)) b1 (Nat.le_refl _); clear U0 F0 U1 b0 b1 hn)
            refine bodyPost_ret (v := .tuple #[.agg (upV up0), .int .i64 11]) (by simp [results, Tryd.results36, go_sem, q0, q1, q2, q3]; try rfl) rfl ?_
            exact ⟨rfl, (((bb.setCell (p := ⟨w.heap.size, 0, none⟩) (Nat.le_refl _) _).setCell (p := ⟨w.heap.size, 1, none⟩) (Nat.le_refl _) _).setCell (p := ⟨w.heap.size, 2, none⟩) (Nat.le_refl _) _).setCell (p := ⟨w.heap.size, 3, none⟩) (Nat.le_refl _) _⟩
          · rw [hf] at c4
            rw [if_pos hf] at hE
            subst hE
            clear hf
            go_enter Tryd.func36, Tryd.ntmps36
            go_wp2_with first
              | (go_at_call 29; refine (isKind_any _ _).mono ?_; rintro e w' ⟨rfl, rfl⟩; rw [h2'])
              | (go_at_call 71; refine (c1 _).mono ?_; rintro e w' ⟨rfl, rfl⟩; clear c1)
              | (go_at_call 28; refine (isSeq_any _ _).mono ?_; rintro e w' ⟨rfl, rfl⟩; rw [h1'])
              | (go_at_call 71; refine (c2 _).mono ?_; rintro e w' ⟨rfl, rfl⟩; clear c2)
              | (go_at_call 30; refine (isID_any _ _).mono ?_; rintro e w' ⟨rfl, rfl⟩; rw [h3'])
              | (go_at_call 31; rw [← hC]; refine (c4 _).mono ?_; rintro e w1 ⟨rfl, b1⟩; clear c4; obtain ⟨q0, q1, q2, q3⟩ := (U0.below b0 (by simp)).below b1 (by simp; omega); obtain ⟨f0, f1, f2, f3⟩ := (F0.below b0 (by simp)).below b1 (by simp; omega); obtain ⟨r0, r1, r2, r3⟩ := U1.below b1 (by simp); have bb := chain (chain hn b0 (Nat.le_refl _)) b1 (Nat.le_refl _); clear U0 F0 U1 b0 b1 hn)
            refine bodyPost_ret (v := .tuple #[.agg (uC v k i C), .int .i64 0]) (by simp [results, Tryd.results36, go_sem, q0, q1, q2, q3, r0, r1, r2, r3]; exact hC.symm) rfl ?_
            refine ⟨by rw [HC.out], ?_⟩
            exact (((bb.setCell (p := ⟨w.heap.size, 0, none⟩) (Nat.le_refl _) _).setCell (p := ⟨w.heap.size, 1, none⟩) (Nat.le_refl _) _).setCell (p := ⟨w.heap.size, 2, none⟩) (Nat.le_refl _) _).setCell (p := ⟨w.heap.size, 3, none⟩) (Nat.le_refl _) _
        · rw [if_neg h3] at hE
          subst hE
          have hwi : IntKind.i64.wrap (i : Int) = wrap64 i := by rw [IntKind.wrap_i64]; unfold wrap64; omega
          have h3' : decide (0 ≤ wrap64 (i : Int) ∧ wrap64 (i : Int) ≤ 281474976710656) = false := decide_eq_false (by unfold wrap64; omega)
          go_enter Tryd.func36, Tryd.ntmps36
          go_wp2_with first
            | (go_at_call 29; refine (isKind_any _ _).mono ?_; rintro e w' ⟨rfl, rfl⟩; rw [h2'])
            | (go_at_call 71; refine (c1 _).mono ?_; rintro e w' ⟨rfl, rfl⟩; clear c1)
            | (go_at_call 28; refine (isSeq_any _ _).mono ?_; rintro e w' ⟨rfl, rfl⟩; rw [h1'])
            | (go_at_call 71; refine (c2 _).mono ?_; rintro e w' ⟨rfl, rfl⟩; clear c2)
            | (go_at_call 30; go_loud (refine (isID_any (wrap64 i) _).mono ?_); rintro e w' ⟨rfl, rfl⟩; rw [h3'])
          refine bodyPost_ret (v := .tuple #[.agg (upV up0), .int .i64 60]) (by simp [results, Tryd.results36, go_sem]; try rfl) rfl ?_
          exact ⟨rfl, hn⟩
      · rw [if_neg he2] at hE
        subst hE
        go_enter Tryd.func36, Tryd.ntmps36
        go_wp2_with first
          | (go_at_call 29; refine (isKind_any _ _).mono ?_; rintro e w' ⟨rfl, rfl⟩; rw [h2'])
          | (go_at_call 71; refine (c1 _).mono ?_; rintro e w' ⟨rfl, rfl⟩; clear c1)
          | (go_at_call 28; refine (isSeq_any _ _).mono ?_; rintro e w' ⟨rfl, rfl⟩; rw [h1'])
          | (go_at_call 71; refine (c2 _).mono ?_; rintro e w' ⟨rfl, rfl⟩; clear c2)
        refine bodyPost_ret (v := .tuple #[.agg (upV up0), .int .i64 e2]) (by simp [results, Tryd.results36, go_sem]; try rfl) rfl ?_
        exact ⟨rfl, hn⟩
    · rw [if_neg h1] at hE
      subst hE
      have hwv : IntKind.i64.wrap (v : Int) = wrap64 v := by rw [IntKind.wrap_i64]; unfold wrap64; omega
      have h1' : decide (1 ≤ wrap64 (v : Int) ∧ wrap64 (v : Int) ≤ 1152921504606846976) = false := decide_eq_false (by unfold wrap64; omega)
      go_enter Tryd.func36, Tryd.ntmps36
      go_wp2_with first
        | (go_at_call 29; refine (isKind_any _ _).mono ?_; rintro e w' ⟨rfl, rfl⟩; rw [h2'])
        | (go_at_call 71; refine (c1 _).mono ?_; rintro e w' ⟨rfl, rfl⟩; clear c1)
        | (go_at_call 28; go_loud (refine (isSeq_any (wrap64 v) _).mono ?_); rintro e w' ⟨rfl, rfl⟩; rw [h1'])
      refine bodyPost_ret (v := .tuple #[.agg (upV up0), .int .i64 51]) (by simp [results, Tryd.results36, go_sem]; try rfl) rfl ?_
      exact ⟨rfl, hn⟩
  · rw [if_neg he] at hE
    subst hE
    go_enter Tryd.func36, Tryd.ntmps36
    go_wp2_with first
      | (go_at_call 29; refine (isKind_any _ _).mono ?_; rintro e w' ⟨rfl, rfl⟩; rw [h2'])
      | (go_at_call 71; refine (c1 _).mono ?_; rintro e w' ⟨rfl, rfl⟩; clear c1)
    refine bodyPost_ret (v := .tuple #[.agg (upV up0), .int .i64 e1]) (by simp [results, Tryd.results36, go_sem]; try rfl) rfl ?_
    exact ⟨rfl, hn⟩
end Go.Proofs.YtbfgnfnihnmjbaaDoor
