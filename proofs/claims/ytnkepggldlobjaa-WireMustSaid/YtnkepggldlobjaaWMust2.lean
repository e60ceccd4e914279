/-
  DERIVED. WireMust.
-/
import Derived.Test.YtnkepggldlobjaaWMust1
import Derived.Test.YtnkepggldlobjaaWMust3
import Derived.Test.YtnkepggldlobjaaWMust4
set_option linter.unusedVariables false
set_option linter.unusedSimpArgs false
namespace Go.Proofs.Ytnkepggldlobjaa
open Go.RowKit Go.Proofs.SealMath
theorem two_box (w1 : World) (C D : Array Value) (T U : TypeId) : HC ((w1.alloc (.cells C T)).alloc (.cells D U)) (w1.heap.size + 1) D U := by
  have := HC.new (w1.alloc (.cells C T)) D U
  have e : (w1.alloc (.cells C T)).heap.size = w1.heap.size + 1 := by simp
  rw [e] at this; exact this
theorem ask_must (i : Nat) (hi : i < 9) (q : Rq) (hop : q.op = (i + 1 : Nat)) (hst : stQ i q = false) (hck : ckQ i q = (false, false)) (hW : RqW q) (w : World) :
    Calls Try.prog 9 #[.agg (rqV q)] w fun e w' => ∃ S : ByteArray, (2 : Int) ≤ (S.size : Int) ∧ e = .returned (.tuple #[.string S, .int .i64 0]) ∧ Below w.heap.size w w' := by
  obtain ⟨S, hS, hA⟩ := must_ask i hi q hop hst hck
  have := ask_any q hW w
  rw [hA] at this
  refine this.mono ?_
  rintro e w1 ⟨rfl, b1⟩
  refine ⟨⟨S.toArray⟩, ?_, rfl, b1⟩
  have : (⟨S.toArray⟩ : ByteArray).size = S.length := List.size_toArray
  omega
theorem ask_0 (ID : Int) (C : ByteArray) (hID : 0 ≤ ID) (gID : ID ≤ 9223372036854775807) (hC : C.size ≤ 65536) (w : World) :
    Calls Try.prog 9 #[.agg #[.int .i64 1, .int .i64 ID, .string C, .int .i64 0, .int .i64 0]] w fun e w' => ∃ S : ByteArray, (2 : Int) ≤ (S.size : Int) ∧ e = .returned (.tuple #[.string S, .int .i64 0]) ∧ Below w.heap.size w w' :=
  ask_must 0 (by decide) ⟨1, ID, C, 0, 0⟩ rfl (by simp [stQ, clQ, rqE, eB]) (by simp only [ckQ]; rw [decide_eq_false (show ¬ ID < 0 by omega), decide_eq_false (show ¬ 65536 < C.size by omega)]) ⟨by show ID ≤ 9223372036854775807; omega, by show (0 : Int) ≤ 9223372036854775807; omega, by show (0 : Int) ≤ 9223372036854775807; omega⟩ w
set_option maxHeartbeats 8000000 in
set_option maxRecDepth 100000 in
theorem must_0 (op id k rad n errno : Int) (code text : ByteArray) (a : Option Addr) (L : List Ht) (cap nl : Nat) (w : World) (ho : IntKind.u64.wrap op % 9 = 0) (hid : id ≤ 9223372036854775807) (hk : k ≤ 9223372036854775807) (hrad : rad ≤ 9223372036854775807) (hn : n ≤ 9223372036854775807) (ht : text.size < 4611686018427387904) (hc : code.size < 4611686018427387904) (hL : HsAt w a L) (hl : nl < 4611686018427387904) (hnl : nl = L.length) :
    Calls Try.prog 8 #[.int .i64 op, .int .i64 id, .int .i64 k, .int .i64 rad, .string code, .int .i64 n, .string text, .int .i64 errno, .slice a nl cap] w fun e w' => e = .returned (.bool true) ∧ Below w.heap.size w w' := by
  have hB := begun_law w
  have HLL := Hid.mk (And.intro hL hnl)
  have HN := Hid.mk (And.intro hn (And.intro ht hl))
  clear hL hnl hn ht hl
  have ho' : (IntKind.u64.wrap op).tmod 9 = 0 := by rw [Int.tmod_eq_emod_of_nonneg (by rw [IntKind.wrap_u64]; omega)]; exact ho
  clear ho
  rcases Int.lt_or_le id 0 with gID | gID
  · skip
    rcases Nat.lt_or_ge 65536 code.size with q | q
    · have q' : (65536 : Int) < (code.size : Int) := by omega
      have hz : (code.extract 0 65536).size ≤ 65536 := by rw [ByteArray.size_extract]; omega
      obtain ⟨C, hC⟩ : ∃ C, code.extract 0 65536 = C := ⟨_, rfl⟩
      rw [hC] at hz
      have hA := fun W => ask_0 0 C (by decide) (by decide) hz W
      clear hid hk hrad hc
      go_enter Try.func8, Try.ntmps8
      go_wp2_with (first
        | (go_at_call 16; refine hB.mono ?_; clear hB; rintro e w1 ⟨rfl, b1⟩; have H1 := Hid.mk b1; clear b1)
        | fail)
      rename_i K9 a9 K8 a8
      have HC9 := Hid.mk a9
      clear a9
      refine (hA _).mono ?_
      clear hA
      rintro e w2 ⟨S, hS, rfl, b2⟩
      have hr := HC.below (two_box w1 _ _ _ _) b2
      have hb := chain (((H1.out.alloc H1.out.size _).alloc (by have := H1.out.size; simp; omega) _)) b2 (Nat.le_refl _)
      have hsz := H1.out.size
      have HX := Hid.mk (And.intro hr hb)
      clear hr hb b2
      go_wp2
      exact HC9.out _ _ (tail_0 w w2 n errno text S a L cap (w1.heap.size + 1) nl HN.out.1 HN.out.2.1 HX.out.2 (Nat.le_succ_of_le hsz) HX.out.1 hS HLL.out.1 HN.out.2.2 HLL.out.2)
    · have q' : ¬ (65536 : Int) < (code.size : Int) := by omega
      have q2 : (code.size : Int) ≤ 65536 := by omega
      have hA := fun W => ask_0 0 code (by decide) (by decide) q W
      clear hid hk hrad hc
      go_enter Try.func8, Try.ntmps8
      go_wp2_with (first
        | (go_at_call 16; refine hB.mono ?_; clear hB; rintro e w1 ⟨rfl, b1⟩; have H1 := Hid.mk b1; clear b1)
        | fail)
      rename_i K9 a9 K8 a8
      have HC9 := Hid.mk a9
      clear a9
      refine (hA _).mono ?_
      clear hA
      rintro e w2 ⟨S, hS, rfl, b2⟩
      have hr := HC.below (two_box w1 _ _ _ _) b2
      have hb := chain (((H1.out.alloc H1.out.size _).alloc (by have := H1.out.size; simp; omega) _)) b2 (Nat.le_refl _)
      have hsz := H1.out.size
      have HX := Hid.mk (And.intro hr hb)
      clear hr hb b2
      go_wp2
      exact HC9.out _ _ (tail_0 w w2 n errno text S a L cap (w1.heap.size + 1) nl HN.out.1 HN.out.2.1 HX.out.2 (Nat.le_succ_of_le hsz) HX.out.1 hS HLL.out.1 HN.out.2.2 HLL.out.2)
  · have gID' : ¬ id < 0 := by omega
    rcases Nat.lt_or_ge 65536 code.size with q | q
    · have q' : (65536 : Int) < (code.size : Int) := by omega
      have hz : (code.extract 0 65536).size ≤ 65536 := by rw [ByteArray.size_extract]; omega
      obtain ⟨C, hC⟩ : ∃ C, code.extract 0 65536 = C := ⟨_, rfl⟩
      rw [hC] at hz
      have hA := fun W => ask_0 id C gID hid hz W
      clear hid hk hrad hc
      go_enter Try.func8, Try.ntmps8
      go_wp2_with (first
        | (go_at_call 16; refine hB.mono ?_; clear hB; rintro e w1 ⟨rfl, b1⟩; have H1 := Hid.mk b1; clear b1)
        | fail)
      rename_i K9 a9 K8 a8
      have HC9 := Hid.mk a9
      clear a9
      refine (hA _).mono ?_
      clear hA
      rintro e w2 ⟨S, hS, rfl, b2⟩
      have hr := HC.below (two_box w1 _ _ _ _) b2
      have hb := chain (((H1.out.alloc H1.out.size _).alloc (by have := H1.out.size; simp; omega) _)) b2 (Nat.le_refl _)
      have hsz := H1.out.size
      have HX := Hid.mk (And.intro hr hb)
      clear hr hb b2
      go_wp2
      exact HC9.out _ _ (tail_0 w w2 n errno text S a L cap (w1.heap.size + 1) nl HN.out.1 HN.out.2.1 HX.out.2 (Nat.le_succ_of_le hsz) HX.out.1 hS HLL.out.1 HN.out.2.2 HLL.out.2)
    · have q' : ¬ (65536 : Int) < (code.size : Int) := by omega
      have q2 : (code.size : Int) ≤ 65536 := by omega
      have hA := fun W => ask_0 id code gID hid q W
      clear hid hk hrad hc
      go_enter Try.func8, Try.ntmps8
      go_wp2_with (first
        | (go_at_call 16; refine hB.mono ?_; clear hB; rintro e w1 ⟨rfl, b1⟩; have H1 := Hid.mk b1; clear b1)
        | fail)
      rename_i K9 a9 K8 a8
      have HC9 := Hid.mk a9
      clear a9
      refine (hA _).mono ?_
      clear hA
      rintro e w2 ⟨S, hS, rfl, b2⟩
      have hr := HC.below (two_box w1 _ _ _ _) b2
      have hb := chain (((H1.out.alloc H1.out.size _).alloc (by have := H1.out.size; simp; omega) _)) b2 (Nat.le_refl _)
      have hsz := H1.out.size
      have HX := Hid.mk (And.intro hr hb)
      clear hr hb b2
      go_wp2
      exact HC9.out _ _ (tail_0 w w2 n errno text S a L cap (w1.heap.size + 1) nl HN.out.1 HN.out.2.1 HX.out.2 (Nat.le_succ_of_le hsz) HX.out.1 hS HLL.out.1 HN.out.2.2 HLL.out.2)
theorem ask_1 (ID : Int) (hID : 0 ≤ ID) (gID : ID ≤ 9223372036854775807) (w : World) :
    Calls Try.prog 9 #[.agg #[.int .i64 2, .int .i64 ID, .string ⟨#[]⟩, .int .i64 0, .int .i64 0]] w fun e w' => ∃ S : ByteArray, (2 : Int) ≤ (S.size : Int) ∧ e = .returned (.tuple #[.string S, .int .i64 0]) ∧ Below w.heap.size w w' :=
  ask_must 1 (by decide) ⟨2, ID, ⟨#[]⟩, 0, 0⟩ rfl (by simp [stQ, clQ, rqE, eB]) (by simp only [ckQ]; rw [decide_eq_false (show ¬ ID < 0 by omega)]) ⟨by show ID ≤ 9223372036854775807; omega, by show (0 : Int) ≤ 9223372036854775807; omega, by show (0 : Int) ≤ 9223372036854775807; omega⟩ w
set_option maxHeartbeats 8000000 in
set_option maxRecDepth 100000 in
theorem must_1 (op id k rad n errno : Int) (code text : ByteArray) (a : Option Addr) (L : List Ht) (cap nl : Nat) (w : World) (ho : IntKind.u64.wrap op % 9 = 1) (hid : id ≤ 9223372036854775807) (hk : k ≤ 9223372036854775807) (hrad : rad ≤ 9223372036854775807) (hn : n ≤ 9223372036854775807) (ht : text.size < 4611686018427387904) (hc : code.size < 4611686018427387904) (hL : HsAt w a L) (hl : nl < 4611686018427387904) (hnl : nl = L.length) :
    Calls Try.prog 8 #[.int .i64 op, .int .i64 id, .int .i64 k, .int .i64 rad, .string code, .int .i64 n, .string text, .int .i64 errno, .slice a nl cap] w fun e w' => e = .returned (.bool true) ∧ Below w.heap.size w w' := by
  have hB := begun_law w
  have HLL := Hid.mk (And.intro hL hnl)
  have HN := Hid.mk (And.intro hn (And.intro ht hl))
  clear hL hnl hn ht hl
  have ho' : (IntKind.u64.wrap op).tmod 9 = 1 := by rw [Int.tmod_eq_emod_of_nonneg (by rw [IntKind.wrap_u64]; omega)]; exact ho
  clear ho
  rcases Int.lt_or_le id 0 with gID | gID
  · skip
    have hA := fun W => ask_1 0 (by decide) (by decide) W
    clear hid hk hrad hc
    go_enter Try.func8, Try.ntmps8
    go_wp2_with (first
      | (go_at_call 16; refine hB.mono ?_; clear hB; rintro e w1 ⟨rfl, b1⟩; have H1 := Hid.mk b1; clear b1)
      | fail)
    rename_i K9 a9 K8 a8
    have HC9 := Hid.mk a9
    clear a9
    refine (hA _).mono ?_
    clear hA
    rintro e w2 ⟨S, hS, rfl, b2⟩
    have hr := HC.below (two_box w1 _ _ _ _) b2
    have hb := chain (((H1.out.alloc H1.out.size _).alloc (by have := H1.out.size; simp; omega) _)) b2 (Nat.le_refl _)
    have hsz := H1.out.size
    have HX := Hid.mk (And.intro hr hb)
    clear hr hb b2
    go_wp2
    exact HC9.out _ _ (tail_1 w w2 n errno text S a L cap (w1.heap.size + 1) nl HN.out.1 HN.out.2.1 HX.out.2 (Nat.le_succ_of_le hsz) HX.out.1 hS HLL.out.1 HN.out.2.2 HLL.out.2)
  · have gID' : ¬ id < 0 := by omega
    have hA := fun W => ask_1 id gID hid W
    clear hid hk hrad hc
    go_enter Try.func8, Try.ntmps8
    go_wp2_with (first
      | (go_at_call 16; refine hB.mono ?_; clear hB; rintro e w1 ⟨rfl, b1⟩; have H1 := Hid.mk b1; clear b1)
      | fail)
    rename_i K9 a9 K8 a8
    have HC9 := Hid.mk a9
    clear a9
    refine (hA _).mono ?_
    clear hA
    rintro e w2 ⟨S, hS, rfl, b2⟩
    have hr := HC.below (two_box w1 _ _ _ _) b2
    have hb := chain (((H1.out.alloc H1.out.size _).alloc (by have := H1.out.size; simp; omega) _)) b2 (Nat.le_refl _)
    have hsz := H1.out.size
    have HX := Hid.mk (And.intro hr hb)
    clear hr hb b2
    go_wp2
    exact HC9.out _ _ (tail_1 w w2 n errno text S a L cap (w1.heap.size + 1) nl HN.out.1 HN.out.2.1 HX.out.2 (Nat.le_succ_of_le hsz) HX.out.1 hS HLL.out.1 HN.out.2.2 HLL.out.2)
theorem ask_2 (ID : Int) (hID : 0 ≤ ID) (gID : ID ≤ 9223372036854775807) (w : World) :
    Calls Try.prog 9 #[.agg #[.int .i64 3, .int .i64 ID, .string ⟨#[]⟩, .int .i64 0, .int .i64 0]] w fun e w' => ∃ S : ByteArray, (2 : Int) ≤ (S.size : Int) ∧ e = .returned (.tuple #[.string S, .int .i64 0]) ∧ Below w.heap.size w w' :=
  ask_must 2 (by decide) ⟨3, ID, ⟨#[]⟩, 0, 0⟩ rfl (by simp [stQ, clQ, rqE, eB]) (by simp only [ckQ]; rw [decide_eq_false (show ¬ ID < 0 by omega)]) ⟨by show ID ≤ 9223372036854775807; omega, by show (0 : Int) ≤ 9223372036854775807; omega, by show (0 : Int) ≤ 9223372036854775807; omega⟩ w
set_option maxHeartbeats 8000000 in
set_option maxRecDepth 100000 in
theorem must_2 (op id k rad n errno : Int) (code text : ByteArray) (a : Option Addr) (L : List Ht) (cap nl : Nat) (w : World) (ho : IntKind.u64.wrap op % 9 = 2) (hid : id ≤ 9223372036854775807) (hk : k ≤ 9223372036854775807) (hrad : rad ≤ 9223372036854775807) (hn : n ≤ 9223372036854775807) (ht : text.size < 4611686018427387904) (hc : code.size < 4611686018427387904) (hL : HsAt w a L) (hl : nl < 4611686018427387904) (hnl : nl = L.length) :
    Calls Try.prog 8 #[.int .i64 op, .int .i64 id, .int .i64 k, .int .i64 rad, .string code, .int .i64 n, .string text, .int .i64 errno, .slice a nl cap] w fun e w' => e = .returned (.bool true) ∧ Below w.heap.size w w' := by
  have hB := begun_law w
  have HLL := Hid.mk (And.intro hL hnl)
  have HN := Hid.mk (And.intro hn (And.intro ht hl))
  clear hL hnl hn ht hl
  have ho' : (IntKind.u64.wrap op).tmod 9 = 2 := by rw [Int.tmod_eq_emod_of_nonneg (by rw [IntKind.wrap_u64]; omega)]; exact ho
  clear ho
  rcases Int.lt_or_le id 0 with gID | gID
  · skip
    have hA := fun W => ask_2 0 (by decide) (by decide) W
    clear hid hk hrad hc
    go_enter Try.func8, Try.ntmps8
    go_wp2_with (first
      | (go_at_call 16; refine hB.mono ?_; clear hB; rintro e w1 ⟨rfl, b1⟩; have H1 := Hid.mk b1; clear b1)
      | fail)
    rename_i K9 a9 K8 a8
    have HC9 := Hid.mk a9
    clear a9
    refine (hA _).mono ?_
    clear hA
    rintro e w2 ⟨S, hS, rfl, b2⟩
    have hr := HC.below (two_box w1 _ _ _ _) b2
    have hb := chain (((H1.out.alloc H1.out.size _).alloc (by have := H1.out.size; simp; omega) _)) b2 (Nat.le_refl _)
    have hsz := H1.out.size
    have HX := Hid.mk (And.intro hr hb)
    clear hr hb b2
    go_wp2
    exact HC9.out _ _ (tail_2 w w2 n errno text S a L cap (w1.heap.size + 1) nl HN.out.1 HN.out.2.1 HX.out.2 (Nat.le_succ_of_le hsz) HX.out.1 hS HLL.out.1 HN.out.2.2 HLL.out.2)
  · have gID' : ¬ id < 0 := by omega
    have hA := fun W => ask_2 id gID hid W
    clear hid hk hrad hc
    go_enter Try.func8, Try.ntmps8
    go_wp2_with (first
      | (go_at_call 16; refine hB.mono ?_; clear hB; rintro e w1 ⟨rfl, b1⟩; have H1 := Hid.mk b1; clear b1)
      | fail)
    rename_i K9 a9 K8 a8
    have HC9 := Hid.mk a9
    clear a9
    refine (hA _).mono ?_
    clear hA
    rintro e w2 ⟨S, hS, rfl, b2⟩
    have hr := HC.below (two_box w1 _ _ _ _) b2
    have hb := chain (((H1.out.alloc H1.out.size _).alloc (by have := H1.out.size; simp; omega) _)) b2 (Nat.le_refl _)
    have hsz := H1.out.size
    have HX := Hid.mk (And.intro hr hb)
    clear hr hb b2
    go_wp2
    exact HC9.out _ _ (tail_2 w w2 n errno text S a L cap (w1.heap.size + 1) nl HN.out.1 HN.out.2.1 HX.out.2 (Nat.le_succ_of_le hsz) HX.out.1 hS HLL.out.1 HN.out.2.2 HLL.out.2)
theorem ask_3 (C : ByteArray) (K : Int) (hC : C.size ≤ 65536) (hK : 0 ≤ K) (gK : K ≤ 9223372036854775807) (w : World) :
    Calls Try.prog 9 #[.agg #[.int .i64 4, .int .i64 0, .string C, .int .i64 K, .int .i64 0]] w fun e w' => ∃ S : ByteArray, (2 : Int) ≤ (S.size : Int) ∧ e = .returned (.tuple #[.string S, .int .i64 0]) ∧ Below w.heap.size w w' :=
  ask_must 3 (by decide) ⟨4, 0, C, K, 0⟩ rfl (by simp [stQ, clQ, rqE, eB]) (by simp only [ckQ]; rw [decide_eq_false (show ¬ K < 0 by omega), decide_eq_false (show ¬ 65536 < C.size by omega)]) ⟨by show (0 : Int) ≤ 9223372036854775807; omega, by show K ≤ 9223372036854775807; omega, by show (0 : Int) ≤ 9223372036854775807; omega⟩ w
set_option maxHeartbeats 8000000 in
set_option maxRecDepth 100000 in
theorem must_3 (op id k rad n errno : Int) (code text : ByteArray) (a : Option Addr) (L : List Ht) (cap nl : Nat) (w : World) (ho : IntKind.u64.wrap op % 9 = 3) (hid : id ≤ 9223372036854775807) (hk : k ≤ 9223372036854775807) (hrad : rad ≤ 9223372036854775807) (hn : n ≤ 9223372036854775807) (ht : text.size < 4611686018427387904) (hc : code.size < 4611686018427387904) (hL : HsAt w a L) (hl : nl < 4611686018427387904) (hnl : nl = L.length) :
    Calls Try.prog 8 #[.int .i64 op, .int .i64 id, .int .i64 k, .int .i64 rad, .string code, .int .i64 n, .string text, .int .i64 errno, .slice a nl cap] w fun e w' => e = .returned (.bool true) ∧ Below w.heap.size w w' := by
  have hB := begun_law w
  have HLL := Hid.mk (And.intro hL hnl)
  have HN := Hid.mk (And.intro hn (And.intro ht hl))
  clear hL hnl hn ht hl
  have ho' : (IntKind.u64.wrap op).tmod 9 = 3 := by rw [Int.tmod_eq_emod_of_nonneg (by rw [IntKind.wrap_u64]; omega)]; exact ho
  clear ho
  rcases Nat.lt_or_ge 65536 code.size with q | q
  · have q' : (65536 : Int) < (code.size : Int) := by omega
    have hz : (code.extract 0 65536).size ≤ 65536 := by rw [ByteArray.size_extract]; omega
    obtain ⟨C, hC⟩ : ∃ C, code.extract 0 65536 = C := ⟨_, rfl⟩
    rw [hC] at hz
    rcases Int.lt_or_le k 0 with gK | gK
    · skip
      have hA := fun W => ask_3 C 0 hz (by decide) (by decide) W
      clear hid hk hrad hc
      go_enter Try.func8, Try.ntmps8
      go_wp2_with (first
        | (go_at_call 16; refine hB.mono ?_; clear hB; rintro e w1 ⟨rfl, b1⟩; have H1 := Hid.mk b1; clear b1)
        | fail)
      rename_i K9 a9 K8 a8
      have HC9 := Hid.mk a9
      clear a9
      refine (hA _).mono ?_
      clear hA
      rintro e w2 ⟨S, hS, rfl, b2⟩
      have hr := HC.below (two_box w1 _ _ _ _) b2
      have hb := chain (((H1.out.alloc H1.out.size _).alloc (by have := H1.out.size; simp; omega) _)) b2 (Nat.le_refl _)
      have hsz := H1.out.size
      have HX := Hid.mk (And.intro hr hb)
      clear hr hb b2
      go_wp2
      exact HC9.out _ _ (tail_3 w w2 n errno text S a L cap (w1.heap.size + 1) nl HN.out.1 HN.out.2.1 HX.out.2 (Nat.le_succ_of_le hsz) HX.out.1 hS HLL.out.1 HN.out.2.2 HLL.out.2)
    · have gK' : ¬ k < 0 := by omega
      have hA := fun W => ask_3 C k hz gK hk W
      clear hid hk hrad hc
      go_enter Try.func8, Try.ntmps8
      go_wp2_with (first
        | (go_at_call 16; refine hB.mono ?_; clear hB; rintro e w1 ⟨rfl, b1⟩; have H1 := Hid.mk b1; clear b1)
        | fail)
      rename_i K9 a9 K8 a8
      have HC9 := Hid.mk a9
      clear a9
      refine (hA _).mono ?_
      clear hA
      rintro e w2 ⟨S, hS, rfl, b2⟩
      have hr := HC.below (two_box w1 _ _ _ _) b2
      have hb := chain (((H1.out.alloc H1.out.size _).alloc (by have := H1.out.size; simp; omega) _)) b2 (Nat.le_refl _)
      have hsz := H1.out.size
      have HX := Hid.mk (And.intro hr hb)
      clear hr hb b2
      go_wp2
      exact HC9.out _ _ (tail_3 w w2 n errno text S a L cap (w1.heap.size + 1) nl HN.out.1 HN.out.2.1 HX.out.2 (Nat.le_succ_of_le hsz) HX.out.1 hS HLL.out.1 HN.out.2.2 HLL.out.2)
  · have q' : ¬ (65536 : Int) < (code.size : Int) := by omega
    have q2 : (code.size : Int) ≤ 65536 := by omega
    rcases Int.lt_or_le k 0 with gK | gK
    · skip
      have hA := fun W => ask_3 code 0 q (by decide) (by decide) W
      clear hid hk hrad hc
      go_enter Try.func8, Try.ntmps8
      go_wp2_with (first
        | (go_at_call 16; refine hB.mono ?_; clear hB; rintro e w1 ⟨rfl, b1⟩; have H1 := Hid.mk b1; clear b1)
        | fail)
      rename_i K9 a9 K8 a8
      have HC9 := Hid.mk a9
      clear a9
      refine (hA _).mono ?_
      clear hA
      rintro e w2 ⟨S, hS, rfl, b2⟩
      have hr := HC.below (two_box w1 _ _ _ _) b2
      have hb := chain (((H1.out.alloc H1.out.size _).alloc (by have := H1.out.size; simp; omega) _)) b2 (Nat.le_refl _)
      have hsz := H1.out.size
      have HX := Hid.mk (And.intro hr hb)
      clear hr hb b2
      go_wp2
      exact HC9.out _ _ (tail_3 w w2 n errno text S a L cap (w1.heap.size + 1) nl HN.out.1 HN.out.2.1 HX.out.2 (Nat.le_succ_of_le hsz) HX.out.1 hS HLL.out.1 HN.out.2.2 HLL.out.2)
    · have gK' : ¬ k < 0 := by omega
      have hA := fun W => ask_3 code k q gK hk W
      clear hid hk hrad hc
      go_enter Try.func8, Try.ntmps8
      go_wp2_with (first
        | (go_at_call 16; refine hB.mono ?_; clear hB; rintro e w1 ⟨rfl, b1⟩; have H1 := Hid.mk b1; clear b1)
        | fail)
      rename_i K9 a9 K8 a8
      have HC9 := Hid.mk a9
      clear a9
      refine (hA _).mono ?_
      clear hA
      rintro e w2 ⟨S, hS, rfl, b2⟩
      have hr := HC.below (two_box w1 _ _ _ _) b2
      have hb := chain (((H1.out.alloc H1.out.size _).alloc (by have := H1.out.size; simp; omega) _)) b2 (Nat.le_refl _)
      have hsz := H1.out.size
      have HX := Hid.mk (And.intro hr hb)
      clear hr hb b2
      go_wp2
      exact HC9.out _ _ (tail_3 w w2 n errno text S a L cap (w1.heap.size + 1) nl HN.out.1 HN.out.2.1 HX.out.2 (Nat.le_succ_of_le hsz) HX.out.1 hS HLL.out.1 HN.out.2.2 HLL.out.2)
theorem ask_4 (C : ByteArray) (R : Int) (hC : C.size ≤ 65536) (hR : 0 ≤ R) (gR : R ≤ 9223372036854775807) (w : World) :
    Calls Try.prog 9 #[.agg #[.int .i64 5, .int .i64 0, .string C, .int .i64 0, .int .i64 R]] w fun e w' => ∃ S : ByteArray, (2 : Int) ≤ (S.size : Int) ∧ e = .returned (.tuple #[.string S, .int .i64 0]) ∧ Below w.heap.size w w' :=
  ask_must 4 (by decide) ⟨5, 0, C, 0, R⟩ rfl (by simp [stQ, clQ, rqE, eB]) (by simp only [ckQ]; rw [decide_eq_false (show ¬ R < 0 by omega), decide_eq_false (show ¬ 65536 < C.size by omega)]) ⟨by show (0 : Int) ≤ 9223372036854775807; omega, by show (0 : Int) ≤ 9223372036854775807; omega, by show R ≤ 9223372036854775807; omega⟩ w
set_option maxHeartbeats 8000000 in
set_option maxRecDepth 100000 in
theorem must_4 (op id k rad n errno : Int) (code text : ByteArray) (a : Option Addr) (L : List Ht) (cap nl : Nat) (w : World) (ho : IntKind.u64.wrap op % 9 = 4) (hid : id ≤ 9223372036854775807) (hk : k ≤ 9223372036854775807) (hrad : rad ≤ 9223372036854775807) (hn : n ≤ 9223372036854775807) (ht : text.size < 4611686018427387904) (hc : code.size < 4611686018427387904) (hL : HsAt w a L) (hl : nl < 4611686018427387904) (hnl : nl = L.length) :
    Calls Try.prog 8 #[.int .i64 op, .int .i64 id, .int .i64 k, .int .i64 rad, .string code, .int .i64 n, .string text, .int .i64 errno, .slice a nl cap] w fun e w' => e = .returned (.bool true) ∧ Below w.heap.size w w' := by
  have hB := begun_law w
  have HLL := Hid.mk (And.intro hL hnl)
  have HN := Hid.mk (And.intro hn (And.intro ht hl))
  clear hL hnl hn ht hl
  have ho' : (IntKind.u64.wrap op).tmod 9 = 4 := by rw [Int.tmod_eq_emod_of_nonneg (by rw [IntKind.wrap_u64]; omega)]; exact ho
  clear ho
  rcases Nat.lt_or_ge 65536 code.size with q | q
  · have q' : (65536 : Int) < (code.size : Int) := by omega
    have hz : (code.extract 0 65536).size ≤ 65536 := by rw [ByteArray.size_extract]; omega
    obtain ⟨C, hC⟩ : ∃ C, code.extract 0 65536 = C := ⟨_, rfl⟩
    rw [hC] at hz
    rcases Int.lt_or_le rad 0 with gR | gR
    · skip
      have hA := fun W => ask_4 C 0 hz (by decide) (by decide) W
      clear hid hk hrad hc
      go_enter Try.func8, Try.ntmps8
      go_wp2_with (first
        | (go_at_call 16; refine hB.mono ?_; clear hB; rintro e w1 ⟨rfl, b1⟩; have H1 := Hid.mk b1; clear b1)
        | fail)
      rename_i K9 a9 K8 a8
      have HC9 := Hid.mk a9
      clear a9
      refine (hA _).mono ?_
      clear hA
      rintro e w2 ⟨S, hS, rfl, b2⟩
      have hr := HC.below (two_box w1 _ _ _ _) b2
      have hb := chain (((H1.out.alloc H1.out.size _).alloc (by have := H1.out.size; simp; omega) _)) b2 (Nat.le_refl _)
      have hsz := H1.out.size
      have HX := Hid.mk (And.intro hr hb)
      clear hr hb b2
      go_wp2
      exact HC9.out _ _ (tail_4 w w2 n errno text S a L cap (w1.heap.size + 1) nl HN.out.1 HN.out.2.1 HX.out.2 (Nat.le_succ_of_le hsz) HX.out.1 hS HLL.out.1 HN.out.2.2 HLL.out.2)
    · have gR' : ¬ rad < 0 := by omega
      have hA := fun W => ask_4 C rad hz gR hrad W
      clear hid hk hrad hc
      go_enter Try.func8, Try.ntmps8
      go_wp2_with (first
        | (go_at_call 16; refine hB.mono ?_; clear hB; rintro e w1 ⟨rfl, b1⟩; have H1 := Hid.mk b1; clear b1)
        | fail)
      rename_i K9 a9 K8 a8
      have HC9 := Hid.mk a9
      clear a9
      refine (hA _).mono ?_
      clear hA
      rintro e w2 ⟨S, hS, rfl, b2⟩
      have hr := HC.below (two_box w1 _ _ _ _) b2
      have hb := chain (((H1.out.alloc H1.out.size _).alloc (by have := H1.out.size; simp; omega) _)) b2 (Nat.le_refl _)
      have hsz := H1.out.size
      have HX := Hid.mk (And.intro hr hb)
      clear hr hb b2
      go_wp2
      exact HC9.out _ _ (tail_4 w w2 n errno text S a L cap (w1.heap.size + 1) nl HN.out.1 HN.out.2.1 HX.out.2 (Nat.le_succ_of_le hsz) HX.out.1 hS HLL.out.1 HN.out.2.2 HLL.out.2)
  · have q' : ¬ (65536 : Int) < (code.size : Int) := by omega
    have q2 : (code.size : Int) ≤ 65536 := by omega
    rcases Int.lt_or_le rad 0 with gR | gR
    · skip
      have hA := fun W => ask_4 code 0 q (by decide) (by decide) W
      clear hid hk hrad hc
      go_enter Try.func8, Try.ntmps8
      go_wp2_with (first
        | (go_at_call 16; refine hB.mono ?_; clear hB; rintro e w1 ⟨rfl, b1⟩; have H1 := Hid.mk b1; clear b1)
        | fail)
      rename_i K9 a9 K8 a8
      have HC9 := Hid.mk a9
      clear a9
      refine (hA _).mono ?_
      clear hA
      rintro e w2 ⟨S, hS, rfl, b2⟩
      have hr := HC.below (two_box w1 _ _ _ _) b2
      have hb := chain (((H1.out.alloc H1.out.size _).alloc (by have := H1.out.size; simp; omega) _)) b2 (Nat.le_refl _)
      have hsz := H1.out.size
      have HX := Hid.mk (And.intro hr hb)
      clear hr hb b2
      go_wp2
      exact HC9.out _ _ (tail_4 w w2 n errno text S a L cap (w1.heap.size + 1) nl HN.out.1 HN.out.2.1 HX.out.2 (Nat.le_succ_of_le hsz) HX.out.1 hS HLL.out.1 HN.out.2.2 HLL.out.2)
    · have gR' : ¬ rad < 0 := by omega
      have hA := fun W => ask_4 code rad q gR hrad W
      clear hid hk hrad hc
      go_enter Try.func8, Try.ntmps8
      go_wp2_with (first
        | (go_at_call 16; refine hB.mono ?_; clear hB; rintro e w1 ⟨rfl, b1⟩; have H1 := Hid.mk b1; clear b1)
        | fail)
      rename_i K9 a9 K8 a8
      have HC9 := Hid.mk a9
      clear a9
      refine (hA _).mono ?_
      clear hA
      rintro e w2 ⟨S, hS, rfl, b2⟩
      have hr := HC.below (two_box w1 _ _ _ _) b2
      have hb := chain (((H1.out.alloc H1.out.size _).alloc (by have := H1.out.size; simp; omega) _)) b2 (Nat.le_refl _)
      have hsz := H1.out.size
      have HX := Hid.mk (And.intro hr hb)
      clear hr hb b2
      go_wp2
      exact HC9.out _ _ (tail_4 w w2 n errno text S a L cap (w1.heap.size + 1) nl HN.out.1 HN.out.2.1 HX.out.2 (Nat.le_succ_of_le hsz) HX.out.1 hS HLL.out.1 HN.out.2.2 HLL.out.2)
theorem ask_5   (w : World) :
    Calls Try.prog 9 #[.agg #[.int .i64 6, .int .i64 0, .string ⟨#[]⟩, .int .i64 0, .int .i64 0]] w fun e w' => ∃ S : ByteArray, (2 : Int) ≤ (S.size : Int) ∧ e = .returned (.tuple #[.string S, .int .i64 0]) ∧ Below w.heap.size w w' :=
  ask_must 5 (by decide) ⟨6, 0, ⟨#[]⟩, 0, 0⟩ rfl (by simp [stQ, clQ, rqE, eB]) (rfl) ⟨by show (0 : Int) ≤ 9223372036854775807; omega, by show (0 : Int) ≤ 9223372036854775807; omega, by show (0 : Int) ≤ 9223372036854775807; omega⟩ w
set_option maxHeartbeats 8000000 in
set_option maxRecDepth 100000 in
theorem must_5 (op id k rad n errno : Int) (code text : ByteArray) (a : Option Addr) (L : List Ht) (cap nl : Nat) (w : World) (ho : IntKind.u64.wrap op % 9 = 5) (hid : id ≤ 9223372036854775807) (hk : k ≤ 9223372036854775807) (hrad : rad ≤ 9223372036854775807) (hn : n ≤ 9223372036854775807) (ht : text.size < 4611686018427387904) (hc : code.size < 4611686018427387904) (hL : HsAt w a L) (hl : nl < 4611686018427387904) (hnl : nl = L.length) :
    Calls Try.prog 8 #[.int .i64 op, .int .i64 id, .int .i64 k, .int .i64 rad, .string code, .int .i64 n, .string text, .int .i64 errno, .slice a nl cap] w fun e w' => e = .returned (.bool true) ∧ Below w.heap.size w w' := by
  have hB := begun_law w
  have HLL := Hid.mk (And.intro hL hnl)
  have HN := Hid.mk (And.intro hn (And.intro ht hl))
  clear hL hnl hn ht hl
  have ho' : (IntKind.u64.wrap op).tmod 9 = 5 := by rw [Int.tmod_eq_emod_of_nonneg (by rw [IntKind.wrap_u64]; omega)]; exact ho
  clear ho
  have hA := fun W => ask_5   W
  clear hid hk hrad hc
  go_enter Try.func8, Try.ntmps8
  go_wp2_with (first
    | (go_at_call 16; refine hB.mono ?_; clear hB; rintro e w1 ⟨rfl, b1⟩; have H1 := Hid.mk b1; clear b1)
    | fail)
  rename_i K9 a9 K8 a8
  have HC9 := Hid.mk a9
  clear a9
  refine (hA _).mono ?_
  clear hA
  rintro e w2 ⟨S, hS, rfl, b2⟩
  have hr := HC.below (two_box w1 _ _ _ _) b2
  have hb := chain (((H1.out.alloc H1.out.size _).alloc (by have := H1.out.size; simp; omega) _)) b2 (Nat.le_refl _)
  have hsz := H1.out.size
  have HX := Hid.mk (And.intro hr hb)
  clear hr hb b2
  go_wp2
  exact HC9.out _ _ (tail_5 w w2 n errno text S a L cap (w1.heap.size + 1) nl HN.out.1 HN.out.2.1 HX.out.2 (Nat.le_succ_of_le hsz) HX.out.1 hS HLL.out.1 HN.out.2.2 HLL.out.2)
theorem ask_6   (w : World) :
    Calls Try.prog 9 #[.agg #[.int .i64 7, .int .i64 0, .string ⟨#[]⟩, .int .i64 0, .int .i64 0]] w fun e w' => ∃ S : ByteArray, (2 : Int) ≤ (S.size : Int) ∧ e = .returned (.tuple #[.string S, .int .i64 0]) ∧ Below w.heap.size w w' :=
  ask_must 6 (by decide) ⟨7, 0, ⟨#[]⟩, 0, 0⟩ rfl (by simp [stQ, clQ, rqE, eB]) (rfl) ⟨by show (0 : Int) ≤ 9223372036854775807; omega, by show (0 : Int) ≤ 9223372036854775807; omega, by show (0 : Int) ≤ 9223372036854775807; omega⟩ w
set_option maxHeartbeats 8000000 in
set_option maxRecDepth 100000 in
theorem must_6 (op id k rad n errno : Int) (code text : ByteArray) (a : Option Addr) (L : List Ht) (cap nl : Nat) (w : World) (ho : IntKind.u64.wrap op % 9 = 6) (hid : id ≤ 9223372036854775807) (hk : k ≤ 9223372036854775807) (hrad : rad ≤ 9223372036854775807) (hn : n ≤ 9223372036854775807) (ht : text.size < 4611686018427387904) (hc : code.size < 4611686018427387904) (hL : HsAt w a L) (hl : nl < 4611686018427387904) (hnl : nl = L.length) :
    Calls Try.prog 8 #[.int .i64 op, .int .i64 id, .int .i64 k, .int .i64 rad, .string code, .int .i64 n, .string text, .int .i64 errno, .slice a nl cap] w fun e w' => e = .returned (.bool true) ∧ Below w.heap.size w w' := by
  have hB := begun_law w
  have HLL := Hid.mk (And.intro hL hnl)
  have HN := Hid.mk (And.intro hn (And.intro ht hl))
  clear hL hnl hn ht hl
  have ho' : (IntKind.u64.wrap op).tmod 9 = 6 := by rw [Int.tmod_eq_emod_of_nonneg (by rw [IntKind.wrap_u64]; omega)]; exact ho
  clear ho
  have hA := fun W => ask_6   W
  clear hid hk hrad hc
  go_enter Try.func8, Try.ntmps8
  go_wp2_with (first
    | (go_at_call 16; refine hB.mono ?_; clear hB; rintro e w1 ⟨rfl, b1⟩; have H1 := Hid.mk b1; clear b1)
    | fail)
  rename_i K9 a9 K8 a8
  have HC9 := Hid.mk a9
  clear a9
  refine (hA _).mono ?_
  clear hA
  rintro e w2 ⟨S, hS, rfl, b2⟩
  have hr := HC.below (two_box w1 _ _ _ _) b2
  have hb := chain (((H1.out.alloc H1.out.size _).alloc (by have := H1.out.size; simp; omega) _)) b2 (Nat.le_refl _)
  have hsz := H1.out.size
  have HX := Hid.mk (And.intro hr hb)
  clear hr hb b2
  go_wp2
  exact HC9.out _ _ (tail_6 w w2 n errno text S a L cap (w1.heap.size + 1) nl HN.out.1 HN.out.2.1 HX.out.2 (Nat.le_succ_of_le hsz) HX.out.1 hS HLL.out.1 HN.out.2.2 HLL.out.2)
theorem ask_7   (w : World) :
    Calls Try.prog 9 #[.agg #[.int .i64 8, .int .i64 0, .string ⟨#[]⟩, .int .i64 0, .int .i64 0]] w fun e w' => ∃ S : ByteArray, (2 : Int) ≤ (S.size : Int) ∧ e = .returned (.tuple #[.string S, .int .i64 0]) ∧ Below w.heap.size w w' :=
  ask_must 7 (by decide) ⟨8, 0, ⟨#[]⟩, 0, 0⟩ rfl (by simp [stQ, clQ, rqE, eB]) (rfl) ⟨by show (0 : Int) ≤ 9223372036854775807; omega, by show (0 : Int) ≤ 9223372036854775807; omega, by show (0 : Int) ≤ 9223372036854775807; omega⟩ w
set_option maxHeartbeats 8000000 in
set_option maxRecDepth 100000 in
theorem must_7 (op id k rad n errno : Int) (code text : ByteArray) (a : Option Addr) (L : List Ht) (cap nl : Nat) (w : World) (ho : IntKind.u64.wrap op % 9 = 7) (hid : id ≤ 9223372036854775807) (hk : k ≤ 9223372036854775807) (hrad : rad ≤ 9223372036854775807) (hn : n ≤ 9223372036854775807) (ht : text.size < 4611686018427387904) (hc : code.size < 4611686018427387904) (hL : HsAt w a L) (hl : nl < 4611686018427387904) (hnl : nl = L.length) :
    Calls Try.prog 8 #[.int .i64 op, .int .i64 id, .int .i64 k, .int .i64 rad, .string code, .int .i64 n, .string text, .int .i64 errno, .slice a nl cap] w fun e w' => e = .returned (.bool true) ∧ Below w.heap.size w w' := by
  have hB := begun_law w
  have HLL := Hid.mk (And.intro hL hnl)
  have HN := Hid.mk (And.intro hn (And.intro ht hl))
  clear hL hnl hn ht hl
  have ho' : (IntKind.u64.wrap op).tmod 9 = 7 := by rw [Int.tmod_eq_emod_of_nonneg (by rw [IntKind.wrap_u64]; omega)]; exact ho
  clear ho
  have hA := fun W => ask_7   W
  clear hid hk hrad hc
  go_enter Try.func8, Try.ntmps8
  go_wp2_with (first
    | (go_at_call 16; refine hB.mono ?_; clear hB; rintro e w1 ⟨rfl, b1⟩; have H1 := Hid.mk b1; clear b1)
    | fail)
  rename_i K9 a9 K8 a8
  have HC9 := Hid.mk a9
  clear a9
  refine (hA _).mono ?_
  clear hA
  rintro e w2 ⟨S, hS, rfl, b2⟩
  have hr := HC.below (two_box w1 _ _ _ _) b2
  have hb := chain (((H1.out.alloc H1.out.size _).alloc (by have := H1.out.size; simp; omega) _)) b2 (Nat.le_refl _)
  have hsz := H1.out.size
  have HX := Hid.mk (And.intro hr hb)
  clear hr hb b2
  go_wp2
  exact HC9.out _ _ (tail_7 w w2 n errno text S a L cap (w1.heap.size + 1) nl HN.out.1 HN.out.2.1 HX.out.2 (Nat.le_succ_of_le hsz) HX.out.1 hS HLL.out.1 HN.out.2.2 HLL.out.2)
theorem ask_8   (w : World) :
    Calls Try.prog 9 #[.agg #[.int .i64 9, .int .i64 0, .string ⟨#[]⟩, .int .i64 0, .int .i64 0]] w fun e w' => ∃ S : ByteArray, (2 : Int) ≤ (S.size : Int) ∧ e = .returned (.tuple #[.string S, .int .i64 0]) ∧ Below w.heap.size w w' :=
  ask_must 8 (by decide) ⟨9, 0, ⟨#[]⟩, 0, 0⟩ rfl (by simp [stQ, clQ, rqE, eB]) (rfl) ⟨by show (0 : Int) ≤ 9223372036854775807; omega, by show (0 : Int) ≤ 9223372036854775807; omega, by show (0 : Int) ≤ 9223372036854775807; omega⟩ w
set_option maxHeartbeats 8000000 in
set_option maxRecDepth 100000 in
theorem must_8 (op id k rad n errno : Int) (code text : ByteArray) (a : Option Addr) (L : List Ht) (cap nl : Nat) (w : World) (ho : IntKind.u64.wrap op % 9 = 8) (hid : id ≤ 9223372036854775807) (hk : k ≤ 9223372036854775807) (hrad : rad ≤ 9223372036854775807) (hn : n ≤ 9223372036854775807) (ht : text.size < 4611686018427387904) (hc : code.size < 4611686018427387904) (hL : HsAt w a L) (hl : nl < 4611686018427387904) (hnl : nl = L.length) :
    Calls Try.prog 8 #[.int .i64 op, .int .i64 id, .int .i64 k, .int .i64 rad, .string code, .int .i64 n, .string text, .int .i64 errno, .slice a nl cap] w fun e w' => e = .returned (.bool true) ∧ Below w.heap.size w w' := by
  have hB := begun_law w
  have HLL := Hid.mk (And.intro hL hnl)
  have HN := Hid.mk (And.intro hn (And.intro ht hl))
  clear hL hnl hn ht hl
  have ho' : (IntKind.u64.wrap op).tmod 9 = 8 := by rw [Int.tmod_eq_emod_of_nonneg (by rw [IntKind.wrap_u64]; omega)]; exact ho
  clear ho
  have hA := fun W => ask_8   W
  clear hid hk hrad hc
  go_enter Try.func8, Try.ntmps8
  go_wp2_with (first
    | (go_at_call 16; refine hB.mono ?_; clear hB; rintro e w1 ⟨rfl, b1⟩; have H1 := Hid.mk b1; clear b1)
    | fail)
  rename_i K9 a9 K8 a8
  have HC9 := Hid.mk a9
  clear a9
  refine (hA _).mono ?_
  clear hA
  rintro e w2 ⟨S, hS, rfl, b2⟩
  have hr := HC.below (two_box w1 _ _ _ _) b2
  have hb := chain (((H1.out.alloc H1.out.size _).alloc (by have := H1.out.size; simp; omega) _)) b2 (Nat.le_refl _)
  have hsz := H1.out.size
  have HX := Hid.mk (And.intro hr hb)
  clear hr hb b2
  go_wp2
  exact HC9.out _ _ (tail_8 w w2 n errno text S a L cap (w1.heap.size + 1) nl HN.out.1 HN.out.2.1 HX.out.2 (Nat.le_succ_of_le hsz) HX.out.1 hS HLL.out.1 HN.out.2.2 HLL.out.2)
theorem law_must (op id k rad n errno : Int) (code text : ByteArray) (a : Option Addr) (L : List Ht) (cap nl : Nat) (w : World) (hid : id ≤ 9223372036854775807) (hk : k ≤ 9223372036854775807) (hrad : rad ≤ 9223372036854775807) (hn : n ≤ 9223372036854775807) (ht : text.size < 4611686018427387904) (hc : code.size < 4611686018427387904) (hL : HsAt w a L) (hl : nl < 4611686018427387904) (hnl : nl = L.length) :
    Calls Try.prog 8 #[.int .i64 op, .int .i64 id, .int .i64 k, .int .i64 rad, .string code, .int .i64 n, .string text, .int .i64 errno, .slice a nl cap] w fun e w' => e = .returned (.bool true) ∧ Below w.heap.size w w' := by
  have : IntKind.u64.wrap op % 9 = 0 ∨ IntKind.u64.wrap op % 9 = 1 ∨ IntKind.u64.wrap op % 9 = 2 ∨ IntKind.u64.wrap op % 9 = 3 ∨ IntKind.u64.wrap op % 9 = 4 ∨ IntKind.u64.wrap op % 9 = 5 ∨ IntKind.u64.wrap op % 9 = 6 ∨ IntKind.u64.wrap op % 9 = 7 ∨ IntKind.u64.wrap op % 9 = 8 := by omega
  rcases this with h | h | h | h | h | h | h | h | h
  · exact must_0 op id k rad n errno code text a L cap nl w h hid hk hrad hn ht hc hL hl hnl
  · exact must_1 op id k rad n errno code text a L cap nl w h hid hk hrad hn ht hc hL hl hnl
  · exact must_2 op id k rad n errno code text a L cap nl w h hid hk hrad hn ht hc hL hl hnl
  · exact must_3 op id k rad n errno code text a L cap nl w h hid hk hrad hn ht hc hL hl hnl
  · exact must_4 op id k rad n errno code text a L cap nl w h hid hk hrad hn ht hc hL hl hnl
  · exact must_5 op id k rad n errno code text a L cap nl w h hid hk hrad hn ht hc hL hl hnl
  · exact must_6 op id k rad n errno code text a L cap nl w h hid hk hrad hn ht hc hL hl hnl
  · exact must_7 op id k rad n errno code text a L cap nl w h hid hk hrad hn ht hc hL hl hnl
  · exact must_8 op id k rad n errno code text a L cap nl w h hid hk hrad hn ht hc hL hl hnl
end Go.Proofs.Ytnkepggldlobjaa
