/-
  DERIVED. JUn, JMath, JTold, JGoes, as one text.
-/
import Derived.Test.YtcamnalmcghjfaaGreatDoorTzAL
import Derived.Test.YtcamnalmcghjfaaGreatDoorTzAN
import Derived.Handy
import Derived.Deep.RegionHeld
set_option linter.unusedVariables false
set_option linter.unusedSimpArgs false
namespace Go.Proofs.YtcamnalmcghjfaaGreatDoor
open Go.RowKit Go.Proofs.SealMath
/-- An update. -/
structure Up where
  s : Nat
  k : Nat
  i : Nat
  c : List UInt8
abbrev up0 : Up := ⟨0, 0, 0, []⟩
abbrev upV (u : Up) : Array Value := uC u.s u.k u.i ⟨u.c.toArray⟩
/-- What a frame of this kind and payload says. -/
def unA (k : Nat) (b : ByteArray) (x : Int) : Up × Int :=
  if k = 1 ∨ k = 2 then
    if (vA b 0).2.2 = 0 then
      if 1 ≤ (vA b 0).1 ∧ (vA b 0).1 ≤ 1152921504606846976 then
        if (vA b (vA b 0).2.1).2.2 = 0 then
          if (vA b (vA b 0).2.1).1 ≤ 281474976710656 then
            if fitB k (b.size - (vA b (vA b 0).2.1).2.1) x = true then (⟨(vA b 0).1, k, (vA b (vA b 0).2.1).1, b.data.toList.drop (vA b (vA b 0).2.1).2.1⟩, 0)
            else (up0, 11)
          else (up0, 60)
        else (up0, (vA b (vA b 0).2.1).2.2)
      else (up0, 51)
    else (up0, (vA b 0).2.2)
  else (up0, 35)
/-- .. and may be written. -/
structure UFr (w : World) (g : Nat) : Prop where
  f0 : w.frozen? ⟨g, 0, none⟩ = false
  f1 : w.frozen? ⟨g, 1, none⟩ = false
  f2 : w.frozen? ⟨g, 2, none⟩ = false
  f3 : w.frozen? ⟨g, 3, none⟩ = false
theorem UFr.new (w : World) (s k i : Int) (c : ByteArray) : UFr (w.alloc (.cells (uC s k i c) 32)) w.heap.size := by
  have h : ∀ j, (w.alloc (.cells (uC s k i c) 32)).frozen? ⟨w.heap.size, j, none⟩ = false := fun j => by
    unfold World.frozen?
    rw [heap_alloc_last]
    simp
  exact ⟨h 0, h 1, h 2, h 3⟩
theorem UFr.below {w w' : World} {g B : Nat} (h : UFr w g) (b : Below B w w') (hg : g < B) : UFr w' g :=
  ⟨(b.frozen (p := ⟨g, 0, none⟩) hg).trans h.f0, (b.frozen (p := ⟨g, 1, none⟩) hg).trans h.f1, (b.frozen (p := ⟨g, 2, none⟩) hg).trans h.f2, (b.frozen (p := ⟨g, 3, none⟩) hg).trans h.f3⟩
theorem vA_lt (b : ByteArray) (p : Nat) (h : (vA b p).2.2 = 0) : (vA b p).1 < 18446744073709551616 ∧ (vA b p).2.1 ≤ b.size := by
  obtain ⟨a, c, d⟩ := vA_only b p (vA b p).1 (vA b p).2.1 (by rw [← h])
  exact ⟨a, d.2⟩
theorem var_at (b : ByteArray) (p : Nat) (w : World) (hb : b.size < 4611686018427387904) (v q : Nat) (e : Int) (h : vA b p = (v, q, e)) :
    Calls Tryz.prog 91 #[.string b, .int .i64 p] w fun r w' => r = .returned (.tuple #[.int .u64 v, .int .i64 q, .int .i64 e]) ∧ w' = w := by
  have := var_any b p w hb
  rw [h] at this
  exact this
theorem ret_upd {fn : Func} {a b : Value} {r r' : Value} (h : a = b) : Ending.returned (.tuple #[a, r]) = .returned (.tuple #[b, r]) := by rw [h]
set_option maxHeartbeats 4000000 in
set_option maxRecDepth 100000 in
theorem unpack_kind (k : Nat) (b : ByteArray) (x : Int) (w : World) (hk : ¬ (k = 1 ∨ k = 2)) :
    Calls Tryz.prog 80 #[.int .i64 k, .string b, .int .i64 x] w fun e w' => e = .returned (.tuple #[.agg (upV up0), .int .i64 35]) ∧ Below w.heap.size w w' := by
  have h2' : decide ((k : Int) = 1 ∨ (k : Int) = 2) = false := decide_eq_false (by omega)
  go_enter Tryz.func80, Tryz.ntmps80
  go_wp2_with first
    | (go_at_call 54; refine (isKind_any _ _).mono ?_; rintro e w' ⟨rfl, rfl⟩; rw [h2'])
  refine bodyPost_ret (v := .tuple #[.agg (upV up0), .int .i64 35]) (by simp [results, Tryz.results80, go_sem]; try rfl) rfl ?_
  exact ⟨rfl, (Below.refl _ w).alloc (Nat.le_refl _) _⟩
set_option maxHeartbeats 4000000 in
set_option maxRecDepth 100000 in
theorem unpack_all (k : Nat) (b : ByteArray) (x : Int) (w : World) (hb : b.size < 4611686018427387904) (hk : k = 1 ∨ k = 2) (v q : Nat) (e1 : Int) (hv : vA b 0 = (v, q, e1)) (hv2 : e1 = 0 → v < 18446744073709551616)
    (i at_ : Nat) (e2 : Int) (hi : vA b q = (i, at_, e2)) (hi2 : e2 = 0 → i < 18446744073709551616 ∧ at_ ≤ b.size) (E : Up × Int)
    (hE : E = if e1 = 0 then if 1 ≤ v ∧ v ≤ 1152921504606846976 then if e2 = 0 then if i ≤ 281474976710656 then if fitB k (b.size - at_) x = true then (⟨v, k, i, b.data.toList.drop at_⟩, 0) else (up0, 11) else (up0, 60) else (up0, e2) else (up0, 51) else (up0, e1)) :
    Calls Tryz.prog 80 #[.int .i64 k, .string b, .int .i64 x] w fun e w' => e = .returned (.tuple #[.agg (upV E.1), .int .i64 E.2]) ∧ Below w.heap.size w w' := by
  have h2' : decide ((k : Int) = 1 ∨ (k : Int) = 2) = true := decide_eq_true (by omega)
  have c1 := fun W => var_at b 0 W hb v q e1 hv
  have c2 := fun W => var_at b q W hb i at_ e2 hi
  have hn : Below w.heap.size w (w.alloc (.cells (upV up0) 32)) := (Below.refl _ w).alloc (Nat.le_refl _) _
  clear hv hi
  by_cases he : e1 = 0
  · rw [if_pos he] at hE
    have hv3 := hv2 he
    clear hv2
    subst he
    by_cases h1 : 1 ≤ v ∧ v ≤ 1152921504606846976
    · rw [if_pos h1] at hE
      have h1' : decide (1 ≤ (v : Int) ∧ (v : Int) ≤ 1152921504606846976) = true := decide_eq_true (by omega)
      by_cases he2 : e2 = 0
      · rw [if_pos he2] at hE
        obtain ⟨hi3, hi4⟩ := hi2 he2
        clear hi2
        subst he2
        by_cases h3 : i ≤ 281474976710656
        · rw [if_pos h3] at hE
          have h3' : decide (0 ≤ (i : Int) ∧ (i : Int) ≤ 281474976710656) = true := decide_eq_true (by omega)
          have hsz : (b.extract at_ b.size).size = b.size - at_ := by rw [ByteArray.size_extract]; omega
          have c4 := fun W => fits_any v k i (b.extract at_ b.size) x W
          rw [hsz] at c4
          have hcl : (b.extract at_ b.size) = ⟨(b.data.toList.drop at_).toArray⟩ := by
            apply ByteArray.ext
            rw [ByteArray.data_extract]
            apply Array.toList_inj.1
            rw [Array.toList_extract]
            simp [List.extract, List.take_of_length_le]
          have HC : Hid _ := hcl
          clear hcl hsz
          obtain ⟨C, hC⟩ : ∃ C : ByteArray, C = b.extract at_ b.size := ⟨_, rfl⟩
          rw [← hC] at c4 HC
          have U0 := UAt.new w 0 0 0 ⟨#[]⟩
          have F0 := UFr.new w 0 0 0 ⟨#[]⟩
          have U1 := UAt.new (w.alloc (.cells (uC 0 0 0 ⟨#[]⟩) 32)) v k i C
          have b0 : Below (w.alloc (.cells (uC 0 0 0 ⟨#[]⟩) 32)).heap.size (w.alloc (.cells (uC 0 0 0 ⟨#[]⟩) 32)) ((w.alloc (.cells (uC 0 0 0 ⟨#[]⟩) 32)).alloc (.cells (uC v k i C) 32)) := (Below.refl _ _).alloc (Nat.le_refl _) _
          rw [World.size_alloc] at U1
          cases hf : fitB k (b.size - at_) x
          · rw [hf] at c4
            rw [if_neg (by rw [hf]; exact Bool.false_ne_true)] at hE
            subst hE
            clear hf
            go_enter Tryz.func80, Tryz.ntmps80
            go_wp2_with first
              | (go_at_call 54; refine (isKind_any _ _).mono ?_; rintro e w' ⟨rfl, rfl⟩; rw [h2'])
              | (go_at_call 91; refine (c1 _).mono ?_; rintro e w' ⟨rfl, rfl⟩; clear c1)
              | (go_at_call 47; refine (isSeq_any _ _).mono ?_; rintro e w' ⟨rfl, rfl⟩; rw [h1'])
              | (go_at_call 91; refine (c2 _).mono ?_; rintro e w' ⟨rfl, rfl⟩; clear c2)
              | (go_at_call 55; refine (isID_any _ _).mono ?_; rintro e w' ⟨rfl, rfl⟩; rw [h3'])
              | (go_at_call 31; rw [← hC]; refine (c4 _).mono ?_; rintro e w1 ⟨rfl, b1⟩; clear c4; obtain ⟨q0, q1, q2, q3⟩ := (U0.below b0 (by simp)).below b1 (by simp; omega); obtain ⟨f0, f1, f2, f3⟩ := (F0.below b0 (by simp)).below b1 (by simp; omega); obtain ⟨r0, r1, r2, r3⟩ := U1.below b1 (by simp); have bb := chain (chain hn b0 (Nat.le_refl _)) b1 (Nat.le_refl _); clear U0 F0 U1 b0 b1 hn)
            refine bodyPost_ret (v := .tuple #[.agg (upV up0), .int .i64 11]) (by simp [results, Tryz.results80, go_sem, q0, q1, q2, q3]; try rfl) rfl ?_
            exact ⟨rfl, (((bb.setCell (p := ⟨w.heap.size, 0, none⟩) (Nat.le_refl _) _).setCell (p := ⟨w.heap.size, 1, none⟩) (Nat.le_refl _) _).setCell (p := ⟨w.heap.size, 2, none⟩) (Nat.le_refl _) _).setCell (p := ⟨w.heap.size, 3, none⟩) (Nat.le_refl _) _⟩
          · rw [hf] at c4
            rw [if_pos hf] at hE
            subst hE
            clear hf
            go_enter Tryz.func80, Tryz.ntmps80
            go_wp2_with first
              | (go_at_call 54; refine (isKind_any _ _).mono ?_; rintro e w' ⟨rfl, rfl⟩; rw [h2'])
              | (go_at_call 91; refine (c1 _).mono ?_; rintro e w' ⟨rfl, rfl⟩; clear c1)
              | (go_at_call 47; refine (isSeq_any _ _).mono ?_; rintro e w' ⟨rfl, rfl⟩; rw [h1'])
              | (go_at_call 91; refine (c2 _).mono ?_; rintro e w' ⟨rfl, rfl⟩; clear c2)
              | (go_at_call 55; refine (isID_any _ _).mono ?_; rintro e w' ⟨rfl, rfl⟩; rw [h3'])
              | (go_at_call 31; rw [← hC]; refine (c4 _).mono ?_; rintro e w1 ⟨rfl, b1⟩; clear c4; obtain ⟨q0, q1, q2, q3⟩ := (U0.below b0 (by simp)).below b1 (by simp; omega); obtain ⟨f0, f1, f2, f3⟩ := (F0.below b0 (by simp)).below b1 (by simp; omega); obtain ⟨r0, r1, r2, r3⟩ := U1.below b1 (by simp); have bb := chain (chain hn b0 (Nat.le_refl _)) b1 (Nat.le_refl _); clear U0 F0 U1 b0 b1 hn)
            refine bodyPost_ret (v := .tuple #[.agg (uC v k i C), .int .i64 0]) (by simp [results, Tryz.results80, go_sem, q0, q1, q2, q3, r0, r1, r2, r3]; exact hC.symm) rfl ?_
            refine ⟨by rw [HC.out], ?_⟩
            exact (((bb.setCell (p := ⟨w.heap.size, 0, none⟩) (Nat.le_refl _) _).setCell (p := ⟨w.heap.size, 1, none⟩) (Nat.le_refl _) _).setCell (p := ⟨w.heap.size, 2, none⟩) (Nat.le_refl _) _).setCell (p := ⟨w.heap.size, 3, none⟩) (Nat.le_refl _) _
        · rw [if_neg h3] at hE
          subst hE
          have hwi : IntKind.i64.wrap (i : Int) = wrap64 i := by rw [IntKind.wrap_i64]; unfold wrap64; omega
          have h3' : decide (0 ≤ wrap64 (i : Int) ∧ wrap64 (i : Int) ≤ 281474976710656) = false := decide_eq_false (by unfold wrap64; omega)
          go_enter Tryz.func80, Tryz.ntmps80
          go_wp2_with first
            | (go_at_call 54; refine (isKind_any _ _).mono ?_; rintro e w' ⟨rfl, rfl⟩; rw [h2'])
            | (go_at_call 91; refine (c1 _).mono ?_; rintro e w' ⟨rfl, rfl⟩; clear c1)
            | (go_at_call 47; refine (isSeq_any _ _).mono ?_; rintro e w' ⟨rfl, rfl⟩; rw [h1'])
            | (go_at_call 91; refine (c2 _).mono ?_; rintro e w' ⟨rfl, rfl⟩; clear c2)
            | (go_at_call 55; go_loud (refine (isID_any (wrap64 i) _).mono ?_); rintro e w' ⟨rfl, rfl⟩; rw [h3'])
          refine bodyPost_ret (v := .tuple #[.agg (upV up0), .int .i64 60]) (by simp [results, Tryz.results80, go_sem]; try rfl) rfl ?_
          exact ⟨rfl, hn⟩
      · rw [if_neg he2] at hE
        subst hE
        go_enter Tryz.func80, Tryz.ntmps80
        go_wp2_with first
          | (go_at_call 54; refine (isKind_any _ _).mono ?_; rintro e w' ⟨rfl, rfl⟩; rw [h2'])
          | (go_at_call 91; refine (c1 _).mono ?_; rintro e w' ⟨rfl, rfl⟩; clear c1)
          | (go_at_call 47; refine (isSeq_any _ _).mono ?_; rintro e w' ⟨rfl, rfl⟩; rw [h1'])
          | (go_at_call 91; refine (c2 _).mono ?_; rintro e w' ⟨rfl, rfl⟩; clear c2)
        refine bodyPost_ret (v := .tuple #[.agg (upV up0), .int .i64 e2]) (by simp [results, Tryz.results80, go_sem]; try rfl) rfl ?_
        exact ⟨rfl, hn⟩
    · rw [if_neg h1] at hE
      subst hE
      have hwv : IntKind.i64.wrap (v : Int) = wrap64 v := by rw [IntKind.wrap_i64]; unfold wrap64; omega
      have h1' : decide (1 ≤ wrap64 (v : Int) ∧ wrap64 (v : Int) ≤ 1152921504606846976) = false := decide_eq_false (by unfold wrap64; omega)
      go_enter Tryz.func80, Tryz.ntmps80
      go_wp2_with first
        | (go_at_call 54; refine (isKind_any _ _).mono ?_; rintro e w' ⟨rfl, rfl⟩; rw [h2'])
        | (go_at_call 91; refine (c1 _).mono ?_; rintro e w' ⟨rfl, rfl⟩; clear c1)
        | (go_at_call 47; go_loud (refine (isSeq_any (wrap64 v) _).mono ?_); rintro e w' ⟨rfl, rfl⟩; rw [h1'])
      refine bodyPost_ret (v := .tuple #[.agg (upV up0), .int .i64 51]) (by simp [results, Tryz.results80, go_sem]; try rfl) rfl ?_
      exact ⟨rfl, hn⟩
  · rw [if_neg he] at hE
    subst hE
    go_enter Tryz.func80, Tryz.ntmps80
    go_wp2_with first
      | (go_at_call 54; refine (isKind_any _ _).mono ?_; rintro e w' ⟨rfl, rfl⟩; rw [h2'])
      | (go_at_call 91; refine (c1 _).mono ?_; rintro e w' ⟨rfl, rfl⟩; clear c1)
    refine bodyPost_ret (v := .tuple #[.agg (upV up0), .int .i64 e1]) (by simp [results, Tryz.results80, go_sem]; try rfl) rfl ?_
    exact ⟨rfl, hn⟩
end Go.Proofs.YtcamnalmcghjfaaGreatDoor
set_option linter.unusedVariables false
set_option linter.unusedSimpArgs false
namespace Go.Proofs.YtcamnalmcghjfaaGreatDoor
open Go.RowKit Go.Proofs.SealMath
theorem sub_app (b : ByteArray) (x y z : List UInt8) (h : b.data.toList = x ++ y ++ z) : sub b x.length y.length = y := by
  unfold sub; rw [h]; simp
theorem ba_len (b : ByteArray) : b.size = b.data.toList.length := by simp
/-- What Write writes, unpack tells. -/
theorem un_put (k s i : Nat) (c : List UInt8) (x : Int) (hk : k = 1 ∨ k = 2) (hs : 1 ≤ s ∧ s ≤ 1152921504606846976) (hi : i ≤ 281474976710656) :
    unA k ⟨(upP s i c).toArray⟩ x = if fitB k c.length x = true then (⟨s, k, i, c⟩, 0) else (up0, 11) := by
  obtain ⟨b, hb⟩ : ∃ b : ByteArray, b = ⟨(upP s i c).toArray⟩ := ⟨_, rfl⟩
  rw [← hb]
  have hl : b.data.toList = pvL 9 s ++ pvL 9 i ++ c := by rw [hb]; rfl
  have hsz : b.size = (pvL 9 s).length + (pvL 9 i).length + c.length := by rw [ba_len, hl]; simp; omega
  have v1 : vA b ((0 : Nat) : Int) = (s, 0 + (pvL 9 s).length, 0) := vA_put b 0 s (by omega) (by
    have := sub_app b [] (pvL 9 s) (pvL 9 i ++ c) (by rw [hl]; simp)
    simpa using this) (by omega)
  have v1' : vA b 0 = (s, (pvL 9 s).length, 0) := by rw [Nat.zero_add] at v1; exact v1
  have v2 : vA b ((pvL 9 s).length : Int) = (i, (pvL 9 s).length + (pvL 9 i).length, 0) := vA_put b _ i (by omega) (sub_app b (pvL 9 s) (pvL 9 i) c hl) (by omega)
  unfold unA
  rw [if_pos hk, v1', v2]
  dsimp only
  rw [if_pos rfl, if_pos hs, if_pos rfl, if_pos hi, hsz]
  have e1 : (pvL 9 s).length + (pvL 9 i).length + c.length - ((pvL 9 s).length + (pvL 9 i).length) = c.length := by omega
  have e2 : b.data.toList.drop ((pvL 9 s).length + (pvL 9 i).length) = c := by rw [hl]; simp
  rw [e1, e2]
theorem vA_ok (b : ByteArray) (p : Nat) (h : (vA b p).2.2 = 0) : vA b p = ((vA b p).1, (vA b p).2.1, 0) := Prod.ext rfl (Prod.ext rfl h)
theorem bytes_of (b : ByteArray) (v q i r : Nat) (h1 : vA b ((0 : Nat) : Int) = (v, q, 0)) (h2 : vA b q = (i, r, 0)) : b.data.toList = upP v i (b.data.toList.drop r) := by
  obtain ⟨a1, a2, a3, a4⟩ := vA_only b 0 v q h1
  obtain ⟨c1, c2, c3, c4⟩ := vA_only b q i r h2
  unfold upP
  unfold sub at a3 c3
  have e1 : b.data.toList = b.data.toList.take q ++ b.data.toList.drop q := (List.take_append_drop _ _).symm
  have e2 : b.data.toList.drop q = (b.data.toList.drop q).take (pvL 9 i).length ++ b.data.toList.drop r := by
    rw [c2, ← List.drop_drop]; exact (List.take_append_drop _ _).symm
  have e3 : b.data.toList.take q = pvL 9 v := by
    rw [a2, Nat.zero_add]; simpa using a3
  rw [c3] at e2
  rw [e2, e3] at e1
  rw [List.append_assoc]
  exact e1
/-- What unpack tells was written. -/
theorem un_only (k : Nat) (b : ByteArray) (x : Int) (h : (unA k b x).2 = 0) : ∃ s i c, unA k b x = (⟨s, k, i, c⟩, 0) ∧ (k = 1 ∨ k = 2) ∧ (1 ≤ s ∧ s ≤ 1152921504606846976) ∧ i ≤ 281474976710656 ∧ fitB k c.length x = true ∧ b.data.toList = upP s i c := by
  unfold unA at h ⊢
  split at h
  · rename_i hk
    split at h
    · rename_i h1
      split at h
      · rename_i h2
        split at h
        · rename_i h3
          split at h
          · rename_i h4
            split at h
            · rename_i h5
              refine ⟨(vA b 0).1, (vA b (vA b 0).2.1).1, b.data.toList.drop (vA b (vA b 0).2.1).2.1, ?_, hk, h2, h4, ?_, ?_⟩
              · rw [if_pos hk, if_pos h1, if_pos h2, if_pos h3, if_pos h4, if_pos h5]
              · rw [List.length_drop, ← ba_len]; exact h5
              · exact bytes_of b _ _ _ _ (vA_ok b 0 h1) (vA_ok b _ h3)
            · simp at h
          · simp at h
        · rename_i h3; exact absurd h h3
      · simp at h
    · rename_i h1; exact absurd h h1
  · simp at h
theorem un_no (k : Nat) (b : ByteArray) (x : Int) (h : (unA k b x).2 ≠ 0) : (unA k b x).1 = up0 := by
  unfold unA at h ⊢
  split
  · split
    · split
      · split
        · split
          · split
            · rename_i h1 h2 h3 h4 h5 h6
              rw [if_pos h1, if_pos h2, if_pos h3, if_pos h4, if_pos h5, if_pos h6] at h
              exact absurd rfl h
            · rfl
          · rfl
        · rfl
      · rfl
    · rfl
  · rfl
theorem wE_up {s k i : Nat} {n : Nat} (hk : k = 1 ∨ k = 2) (hs : 1 ≤ s ∧ s ≤ 1152921504606846976) (hi : i ≤ 281474976710656) (hf : (k = 1 ∧ 8 ≤ n ∧ n ≤ 128 ∧ n % 8 = 0) ∨ (k = 2 ∧ n = 0)) : wE s k i n = 0 := by
  unfold wE; rw [if_pos (by omega), if_pos (by omega), if_pos (by omega), if_pos (by omega)]
theorem fit_n {k n : Nat} {x : Int} (hk : k = 1 ∨ k = 2) (hW : isW x = true) (hf : fitB k n x = true) : ((k = 1 ∧ 8 ≤ n ∧ n ≤ 128 ∧ n % 8 = 0) ∨ (k = 2 ∧ n = 0)) ∧ (k = 1 → (n : Int) = x / 8) := by
  have h1 := isW_bd hW
  have h2 := isW_mod hW
  unfold fitB at hf
  rcases hk with rfl | rfl
  · rw [if_neg (by decide)] at hf
    have := (chk_ok.1 (by simpa using hf)).2
    exact ⟨.inl ⟨rfl, by omega, by omega, by omega⟩, fun _ => this⟩
  · rw [if_pos (by decide)] at hf
    exact ⟨.inr ⟨rfl, by simpa using hf⟩, fun h => by omega⟩
end Go.Proofs.YtcamnalmcghjfaaGreatDoor
set_option linter.unusedVariables false
set_option linter.unusedSimpArgs false
namespace Go.Proofs.YtcamnalmcghjfaaGreatDoor
open Go.RowKit Go.Proofs.SealMath
def upsF (x : Int) : Nat → ByteArray → Nat → List (Up × Nat)
  | 0, _, _ => []
  | f + 1, b, a => if (psA b a).2.2.2 = 0 then ((unA (psA b a).1 ⟨(psA b a).2.1.toArray⟩ x).1, (psA b a).2.2.1) :: upsF x f b (psA b a).2.2.1 else []
/-- The updates of a file's bytes from a place on, as far as frames stand there. -/
def ups (b : ByteArray) (x : Int) (a : Nat) : List (Up × Nat) := upsF x (b.size + 1) b a
theorem psA_next {b : ByteArray} {a : Nat} (h : (psA b a).2.2.2 = 0) : a + 14 ≤ (psA b a).2.2.1 ∧ (psA b a).2.2.1 ≤ b.size ∧ 1 ≤ (psA b a).1 ∧ (psA b a).1 ≤ 255 ∧ (psA b a).2.1.length ≤ 65536 := by
  obtain ⟨k, p, h1, h2, h3, h4, h5, -⟩ := psA_yes b a h
  rw [h5]
  exact ⟨by dsimp only; omega, by dsimp only; omega, h1, h2, h3⟩
theorem upsF_more (x : Int) (b : ByteArray) : ∀ (f g a : Nat), b.size + 1 - a ≤ f → b.size + 1 - a ≤ g → upsF x f b a = upsF x g b a
  | 0, 0, a, _, _ => rfl
  | 0, g + 1, a, h1, h2 => by
    have : ¬ (psA b a).2.2.2 = 0 := fun h => by have := psA_next h; omega
    rw [upsF, upsF, if_neg this]
  | f + 1, 0, a, h1, h2 => by
    have : ¬ (psA b a).2.2.2 = 0 := fun h => by have := psA_next h; omega
    rw [upsF, upsF, if_neg this]
  | f + 1, g + 1, a, h1, h2 => by
    by_cases h : (psA b a).2.2.2 = 0
    · have hn := psA_next h
      rw [upsF, upsF, if_pos h, if_pos h, upsF_more x b f g _ (by omega) (by omega)]
    · rw [upsF, upsF, if_neg h, if_neg h]
theorem ups_none {b : ByteArray} {x : Int} {a : Nat} (h : ¬ (psA b a).2.2.2 = 0) : ups b x a = [] := by unfold ups; rw [upsF, if_neg h]
theorem ups_some {b : ByteArray} {x : Int} {a : Nat} (h : (psA b a).2.2.2 = 0) : ups b x a = ((unA (psA b a).1 ⟨(psA b a).2.1.toArray⟩ x).1, (psA b a).2.2.1) :: ups b x (psA b a).2.2.1 := by
  have hn := psA_next h
  unfold ups
  rw [upsF, if_pos h, upsF_more x b b.size (b.size + 1) _ (by omega) (by omega)]
theorem ups_len (b : ByteArray) (x : Int) : ∀ (f a : Nat), b.size + 1 - a ≤ f → a ≤ b.size → (ups b x a).length * 14 + a ≤ b.size
  | 0, a, h, h2 => by omega
  | f + 1, a, h, h2 => by
    by_cases hp : (psA b a).2.2.2 = 0
    · have hn := psA_next hp
      have := ups_len b x f (psA b a).2.2.1 (by omega) hn.2.1
      rw [ups_some hp, List.length_cons]
      omega
    · rw [ups_none hp]; simpa using h2
/-- Each has the number behind the one ahead. -/
def okU (s : Nat) (l : List (Up × Nat)) : Prop := ∀ (i : Nat) (z : Up × Nat), l[i]? = some z → z.1.s = s + i + 1
/-- Where they end. -/
def endU (l : List (Up × Nat)) : Nat := match l.getLast? with
  | some z => z.2
  | none => 0
theorem endU_snoc (l : List (Up × Nat)) (z : Up × Nat) : endU (l ++ [z]) = z.2 := by unfold endU; simp
theorem okU_nil (s : Nat) : okU s [] := fun i z h => by simp at h
theorem okU_snoc {s : Nat} {l : List (Up × Nat)} {z : Up × Nat} (h : okU s l) (hz : z.1.s = s + l.length + 1) : okU s (l ++ [z]) := fun i y hy => by
  rcases Nat.lt_or_ge i l.length with hi | hi
  · rw [List.getElem?_append_left hi] at hy; exact h i y hy
  · have hl := (List.getElem?_eq_some_iff.1 hy).1
    have e : i = l.length := by simp at hl; omega
    subst e
    rw [List.getElem?_append_right (Nat.le_refl _)] at hy
    simp at hy
    rw [← hy]; exact hz
theorem okU_pre {s : Nat} {l m : List (Up × Nat)} (h : okU s m) (hp : l <+: m) : okU s l := fun i z hz => h i z (by
  obtain ⟨t, rfl⟩ := hp
  rw [List.getElem?_append_left (List.getElem?_eq_some_iff.1 hz).1]; exact hz)
theorem okU_no {s : Nat} {l m : List (Up × Nat)} {z : Up × Nat} (hp : l ++ [z] <+: m) (hz : z.1.s ≠ s + l.length + 1) : ¬ okU s m := fun h => hz (by
  have := okU_pre h hp l.length z (by simp)
  exact this)
/-- The updates alone, as cells. -/
def uL (u : Up) : List Value := (upV u).toList
def lsU (l : List (Up × Nat)) : List Value := l.flatMap fun z => uL z.1
end Go.Proofs.YtcamnalmcghjfaaGreatDoor
set_option linter.unusedVariables false
set_option linter.unusedSimpArgs false
namespace Go.Proofs.YtcamnalmcghjfaaGreatDoor
open Go.RowKit Go.Proofs.SealMath
theorem tmod_gt (k : Int) (n : Nat) (hn : 1 ≤ n) : -(n : Int) < k.tmod n := by
  have h : (-k).tmod n < n := Int.tmod_lt_of_pos _ (by omega)
  rw [Int.neg_tmod] at h
  omega
set_option maxHeartbeats 1000000 in
set_option maxRecDepth 100000 in
theorem pick_any (k : Int) (n : Nat) (w : World) (hn : 1 ≤ n) (hn2 : n ≤ 1152921504606846976) (hk : -9223372036854775808 ≤ k ∧ k < 9223372036854775808) :
    Calls Tryz.prog 5 #[.int .i64 k, .int .i64 n] w fun e w' => e = .returned (.int .i64 (k % (n : Int))) ∧ w' = w := by
  have hm : k % (n : Int) = if k.tmod n < 0 then k.tmod n + n else k.tmod n := by
    have h1 := Int.tmod_add_mul_tdiv k n
    have h2 := Int.emod_emod_of_dvd k (Int.dvd_refl (n : Int))
    have hn0 : (0 : Int) < n := by omega
    have h3 : k.tmod n % n = k % n := by
      have : k % n = (k.tmod n + n * k.tdiv n) % n := by rw [h1]
      rw [this, Int.add_mul_emod_self_left]
    have h4 : -(n : Int) < k.tmod n := tmod_gt k n hn
    have h5 : k.tmod n < n := Int.tmod_lt_of_pos k hn0
    split
    · have h6 : (k.tmod n + n) % n = k.tmod n % n := by rw [Int.add_emod, Int.emod_self, Int.add_zero, Int.emod_emod_of_dvd _ (Int.dvd_refl _)]
      rw [← h3, ← h6]
      exact Int.emod_eq_of_lt (by omega) (by omega)
    · rw [← h3]
      exact Int.emod_eq_of_lt (by omega) h5
  go_enter Tryz.func5, Tryz.ntmps5
  go_wp2
  · go_ret
    have h4 : -(n : Int) < k.tmod n := tmod_gt k n hn
    rw [if_pos ‹_›] at hm
    exact ⟨ret_int (by rw [hm]; unfold wrap64; omega), rfl⟩
  · go_ret
    rw [if_neg (by omega)] at hm
    exact ⟨ret_int hm.symm, rfl⟩
theorem ext_sub0 (b : ByteArray) (c : Nat) : (b.extract 0 c).data.toList = b.data.toList.take c := by
  rw [ByteArray.data_extract, Array.toList_extract]
  simp [List.extract]
/-- Eight bytes of any text. -/
def codeL (c : ByteArray) : List UInt8 := (c.data.toList ++ List.replicate 8 0).take 8
theorem codeL_len (c : ByteArray) : (codeL c).length = 8 := by simp [codeL]
set_option maxHeartbeats 1000000 in
set_option maxRecDepth 100000 in
theorem code_any (c : ByteArray) (w : World) (hc : c.size ≤ 4611686018427387904) :
    Calls Tryz.prog 33 #[.string c] w fun e w' => e = .returned (.string ⟨(codeL c).toArray⟩) ∧ w' = w := by
  go_enter Tryz.func33, Tryz.ntmps33
  go_wp2
  go_ret
  refine ⟨congrArg (fun x => Ending.returned (Value.string x)) (ba_ext ?_), rfl⟩
  rw [ext_sub0]
  simp [codeL]
/-- An update that goes. -/
def goU (k i : Int) (c : ByteArray) (s : Nat) : Up := ⟨s, (1 + k % 2).toNat, (i % 281474976710657).toNat, if k % 2 = 0 then codeL c else []⟩
theorem two_new (w1 : World) (s k i : Int) : ∃ W, W = ((w1.alloc (.cells (uC 0 0 0 ⟨#[]⟩) 32)).alloc (.cells (uC s k i ⟨#[]⟩) 32)).drew ∧ UAt W w1.heap.size 0 0 0 ⟨#[]⟩ ∧ UFr W w1.heap.size ∧ UAt W (w1.heap.size + 1) s k i ⟨#[]⟩ ∧ UFr W (w1.heap.size + 1) ∧ Below w1.heap.size w1 W := by
  have b0 : Below w1.heap.size w1 (w1.alloc (.cells (uC 0 0 0 ⟨#[]⟩) 32)) := (Below.refl _ _).alloc (Nat.le_refl _) _
  have b1 : Below (w1.alloc (.cells (uC 0 0 0 ⟨#[]⟩) 32)).heap.size (w1.alloc (.cells (uC 0 0 0 ⟨#[]⟩) 32)) ((w1.alloc (.cells (uC 0 0 0 ⟨#[]⟩) 32)).alloc (.cells (uC s k i ⟨#[]⟩) 32)).drew := ((Below.refl _ _).alloc (Nat.le_refl _) _).drew
  have b2 := b_drew ((w1.alloc (.cells (uC 0 0 0 ⟨#[]⟩) 32)).alloc (.cells (uC s k i ⟨#[]⟩) 32))
  have u := UAt.new (w1.alloc (.cells (uC 0 0 0 ⟨#[]⟩) 32)) s k i ⟨#[]⟩
  have f := UFr.new (w1.alloc (.cells (uC 0 0 0 ⟨#[]⟩) 32)) s k i ⟨#[]⟩
  rw [World.size_alloc] at u f
  refine ⟨_, rfl, (UAt.new w1 0 0 0 ⟨#[]⟩).below b1 (by simp), (UFr.new w1 0 0 0 ⟨#[]⟩).below b1 (by simp), u.below b2 (by simp), f.below b2 (by simp), chain b0 b1 (Nat.le_refl _)⟩
set_option maxHeartbeats 1000000 in
set_option maxRecDepth 100000 in
theorem goes_0 (s0 k i : Int) (c : ByteArray) (s : Nat) (w : World) (hc : c.size ≤ 4611686018427387904) (hk : -9223372036854775808 ≤ k ∧ k < 9223372036854775808) (hi : -9223372036854775808 ≤ i ∧ i < 9223372036854775808) (hK : k % 2 = 0) (I : Nat) (hI : i % 281474976710657 = I) :
    Calls Tryz.prog 11 #[.agg (uC s0 k i c), .int .i64 s] w fun e w' => e = .returned (.agg (upV ⟨s, 1, I, codeL c⟩)) ∧ Below w.heap.size w w' := by
  have h1 : 0 ≤ i % 281474976710657 ∧ i % 281474976710657 < 281474976710657 := by omega
  have c1 := fun W => pick_any k 2 W (by omega) (by omega) hk
  have c2 := fun W => pick_any i 281474976710657 W (by omega) (by omega) hi
  have c3 := fun W => code_any c W hc
  rw [show ((2 : Nat) : Int) = 2 from rfl, hK] at c1
  rw [show ((281474976710657 : Nat) : Int) = 281474976710657 from rfl, hI] at c2
  rw [hI] at h1
  clear hK hI
  go_enter Tryz.func11, Tryz.ntmps11
  go_wp2_with fail
  obtain ⟨q0, q1, q2, q3⟩ := UAt.new w s0 k i c
  have ba : Below w.heap.size w (w.alloc (.cells (uC s0 k i c) 32)) := (Below.refl _ w).alloc (Nat.le_refl _) _
  have hs1 : (w.alloc (.cells (uC s0 k i c) 32)).heap.size = w.heap.size + 1 := by simp
  have hwk : IntKind.i64.wrap 1 = 1 := by rw [IntKind.wrap_i64]; omega
  obtain ⟨w1, hw1⟩ : ∃ w1, w1 = w.alloc (.cells (uC s0 k i c) 32) := ⟨_, rfl⟩
  rw [← hw1] at q0 q1 q2 q3 ba hs1 ⊢
  clear hw1
  rw [← hs1]
  go_region_held (fun w' => w'.cell? ⟨w.heap.size, 1, none⟩ = some (.int .i64 k) ∧ w'.cell? ⟨w.heap.size, 2, none⟩ = some (.int .i64 i) ∧ w'.cell? ⟨w.heap.size, 3, none⟩ = some (.string c)) (go_keep)
    (first
      | (go_at_call 5; refine (c1 _).mono ?_; rintro e w' ⟨rfl, rfl⟩; clear c1)
      | (go_at_call 5; refine (c2 _).mono ?_; rintro e w' ⟨rfl, rfl⟩; clear c2))
  all_goals
    rename_i hH
    have c9 := hH.2.2
    clear hH
    try clear c1
    try clear c2
    obtain ⟨W, hW, UR, FR, UX, FX, bX⟩ := two_new w1 s 1 I
    have bW := chain ba bX (by omega)
    rw [hs1] at UR FR UX FX
    clear bX q0 q1 q2 q3 ba
    try rw [hwk] at c9
    try rw [hwk]
    rw [← hW] at c9 ⊢
    clear hW hs1 hk hi hc w1
    obtain ⟨r0, r1, r2, r3⟩ := UR
    obtain ⟨f0, f1, f2, f3⟩ := FR
    obtain ⟨x0, x1, x2, x3⟩ := UX
    obtain ⟨g0, g1, g2, g3⟩ := FX
    go_wp2_with (go_at_call 33; refine (c3 _).mono ?_; rintro e w' ⟨rfl, rfl⟩; clear c3)
    refine bodyPost_ret (v := .agg (uC s 1 I ⟨(codeL c).toArray⟩)) (by simp [results, Tryz.results11, go_sem, r0, r1, r2, r3, x0, x1, x2, x3]; try rfl) rfl ?_
    exact ⟨rfl, (((((bW.setCell (p := ⟨w.heap.size + 1 + 1, 3, none⟩) (by simp; omega) _).setCell (p := ⟨w.heap.size + 1, 0, none⟩) (by simp) _).setCell (p := ⟨w.heap.size + 1, 1, none⟩) (by simp) _).setCell (p := ⟨w.heap.size + 1, 2, none⟩) (by simp) _).setCell (p := ⟨w.heap.size + 1, 3, none⟩) (by simp) _)⟩
set_option maxHeartbeats 1000000 in
set_option maxRecDepth 100000 in
theorem goes_1 (s0 k i : Int) (c : ByteArray) (s : Nat) (w : World) (hc : c.size ≤ 4611686018427387904) (hk : -9223372036854775808 ≤ k ∧ k < 9223372036854775808) (hi : -9223372036854775808 ≤ i ∧ i < 9223372036854775808) (hK : k % 2 = 1) (I : Nat) (hI : i % 281474976710657 = I) :
    Calls Tryz.prog 11 #[.agg (uC s0 k i c), .int .i64 s] w fun e w' => e = .returned (.agg (upV ⟨s, 2, I, []⟩)) ∧ Below w.heap.size w w' := by
  have h1 : 0 ≤ i % 281474976710657 ∧ i % 281474976710657 < 281474976710657 := by omega
  have c1 := fun W => pick_any k 2 W (by omega) (by omega) hk
  have c2 := fun W => pick_any i 281474976710657 W (by omega) (by omega) hi
  have c3 := fun W => code_any c W hc
  rw [show ((2 : Nat) : Int) = 2 from rfl, hK] at c1
  rw [show ((281474976710657 : Nat) : Int) = 281474976710657 from rfl, hI] at c2
  rw [hI] at h1
  clear hK hI
  go_enter Tryz.func11, Tryz.ntmps11
  go_wp2_with fail
  obtain ⟨q0, q1, q2, q3⟩ := UAt.new w s0 k i c
  have ba : Below w.heap.size w (w.alloc (.cells (uC s0 k i c) 32)) := (Below.refl _ w).alloc (Nat.le_refl _) _
  have hs1 : (w.alloc (.cells (uC s0 k i c) 32)).heap.size = w.heap.size + 1 := by simp
  have hwk : IntKind.i64.wrap 2 = 2 := by rw [IntKind.wrap_i64]; omega
  obtain ⟨w1, hw1⟩ : ∃ w1, w1 = w.alloc (.cells (uC s0 k i c) 32) := ⟨_, rfl⟩
  rw [← hw1] at q0 q1 q2 q3 ba hs1 ⊢
  clear hw1
  rw [← hs1]
  go_region_held (fun w' => w'.cell? ⟨w.heap.size, 1, none⟩ = some (.int .i64 k) ∧ w'.cell? ⟨w.heap.size, 2, none⟩ = some (.int .i64 i) ∧ w'.cell? ⟨w.heap.size, 3, none⟩ = some (.string c)) (go_keep)
    (first
      | (go_at_call 5; refine (c1 _).mono ?_; rintro e w' ⟨rfl, rfl⟩; clear c1)
      | (go_at_call 5; refine (c2 _).mono ?_; rintro e w' ⟨rfl, rfl⟩; clear c2))
  all_goals
    rename_i hH
    have c9 := hH.2.2
    clear hH
    try clear c1
    try clear c2
    obtain ⟨W, hW, UR, FR, UX, FX, bX⟩ := two_new w1 s 2 I
    have bW := chain ba bX (by omega)
    rw [hs1] at UR FR UX FX
    clear bX q0 q1 q2 q3 ba
    try rw [hwk] at c9
    try rw [hwk]
    rw [← hW] at c9 ⊢
    clear hW hs1 hk hi hc w1
    obtain ⟨r0, r1, r2, r3⟩ := UR
    obtain ⟨f0, f1, f2, f3⟩ := FR
    obtain ⟨x0, x1, x2, x3⟩ := UX
    obtain ⟨g0, g1, g2, g3⟩ := FX
    go_wp2_with fail
    refine bodyPost_ret (v := .agg (uC s 2 I ⟨#[]⟩)) (by simp [results, Tryz.results11, go_sem, r0, r1, r2, r3, x0, x1, x2, x3]; try rfl) rfl ?_
    exact ⟨rfl, ((((bW.setCell (p := ⟨w.heap.size + 1, 0, none⟩) (by simp) _).setCell (p := ⟨w.heap.size + 1, 1, none⟩) (by simp) _).setCell (p := ⟨w.heap.size + 1, 2, none⟩) (by simp) _).setCell (p := ⟨w.heap.size + 1, 3, none⟩) (by simp) _)⟩
theorem goes_any (s0 k i : Int) (c : ByteArray) (s : Nat) (w : World) (hc : c.size ≤ 4611686018427387904) (hk : -9223372036854775808 ≤ k ∧ k < 9223372036854775808) (hi : -9223372036854775808 ≤ i ∧ i < 9223372036854775808) :
    Calls Tryz.prog 11 #[.agg (uC s0 k i c), .int .i64 s] w fun e w' => e = .returned (.agg (upV (goU k i c s))) ∧ Below w.heap.size w w' := by
  have h2 : k % 2 = 0 ∨ k % 2 = 1 := by omega
  obtain ⟨I, hI⟩ : ∃ I : Nat, i % 281474976710657 = I := ⟨(i % 281474976710657).toNat, by omega⟩
  rcases h2 with h | h
  · have e : goU k i c s = ⟨s, 1, I, codeL c⟩ := by unfold goU; rw [h, hI]; rfl
    rw [e]; exact goes_0 s0 k i c s w hc hk hi h I hI
  · have e : goU k i c s = ⟨s, 2, I, []⟩ := by unfold goU; rw [h, hI]; rfl
    rw [e]; exact goes_1 s0 k i c s w hc hk hi h I hI
end Go.Proofs.YtcamnalmcghjfaaGreatDoor
