/-
  DERIVED. The document's own Ask.
-/
import Derived.Test.YtjdknijjkjmafaaWAskP
set_option linter.unusedVariables false
set_option linter.unusedSimpArgs false
namespace Go.Proofs.Ytjdknijjkjmafaa
open Go.RowKit Go.Proofs.SealMath
def nmQ (i : Nat) : Bool × Bool × Bool × Bool :=
  match i with
  | 0 => (true, true, false, false)
  | 1 => (true, false, false, false)
  | 2 => (true, false, false, false)
  | 3 => (false, true, true, false)
  | 4 => (false, true, false, true)
  | _ => (false, false, false, false)
set_option maxHeartbeats 2000000 in
theorem names_any (i : Nat) (hi : i < 9) (w : World) :
    Calls Try.prog 43 #[.int .i64 (i + 1 : Nat)] w fun e w' => e = .returned (.tuple #[.bool (nmQ i).1, .bool (nmQ i).2.1, .bool (nmQ i).2.2.1, .bool (nmQ i).2.2.2]) ∧ w' = w := by
  have h : i = 0 ∨ i = 1 ∨ i = 2 ∨ i = 3 ∨ i = 4 ∨ i = 5 ∨ i = 6 ∨ i = 7 ∨ i = 8 := by omega
  rcases h with rfl | rfl | rfl | rfl | rfl | rfl | rfl | rfl | rfl
  · show Calls Try.prog 43 #[.int .i64 1] w _
    go_enter Try.func43, Try.ntmps43
    go_wp2
    refine bodyPost_ret (v := .tuple #[.bool true, .bool true, .bool false, .bool false]) (by simp [results, Try.results43, go_sem]; try rfl) rfl ?_
    exact ⟨rfl, rfl⟩
  · show Calls Try.prog 43 #[.int .i64 2] w _
    go_enter Try.func43, Try.ntmps43
    go_wp2
    refine bodyPost_ret (v := .tuple #[.bool true, .bool false, .bool false, .bool false]) (by simp [results, Try.results43, go_sem]; try rfl) rfl ?_
    exact ⟨rfl, rfl⟩
  · show Calls Try.prog 43 #[.int .i64 3] w _
    go_enter Try.func43, Try.ntmps43
    go_wp2
    refine bodyPost_ret (v := .tuple #[.bool true, .bool false, .bool false, .bool false]) (by simp [results, Try.results43, go_sem]; try rfl) rfl ?_
    exact ⟨rfl, rfl⟩
  · show Calls Try.prog 43 #[.int .i64 4] w _
    go_enter Try.func43, Try.ntmps43
    go_wp2
    refine bodyPost_ret (v := .tuple #[.bool false, .bool true, .bool true, .bool false]) (by simp [results, Try.results43, go_sem]; try rfl) rfl ?_
    exact ⟨rfl, rfl⟩
  · show Calls Try.prog 43 #[.int .i64 5] w _
    go_enter Try.func43, Try.ntmps43
    go_wp2
    refine bodyPost_ret (v := .tuple #[.bool false, .bool true, .bool false, .bool true]) (by simp [results, Try.results43, go_sem]; try rfl) rfl ?_
    exact ⟨rfl, rfl⟩
  · show Calls Try.prog 43 #[.int .i64 6] w _
    go_enter Try.func43, Try.ntmps43
    go_wp2
    refine bodyPost_ret (v := .tuple #[.bool false, .bool false, .bool false, .bool false]) (by simp [results, Try.results43, go_sem]; try rfl) rfl ?_
    exact ⟨rfl, rfl⟩
  · show Calls Try.prog 43 #[.int .i64 7] w _
    go_enter Try.func43, Try.ntmps43
    go_wp2
    refine bodyPost_ret (v := .tuple #[.bool false, .bool false, .bool false, .bool false]) (by simp [results, Try.results43, go_sem]; try rfl) rfl ?_
    exact ⟨rfl, rfl⟩
  · show Calls Try.prog 43 #[.int .i64 8] w _
    go_enter Try.func43, Try.ntmps43
    go_wp2
    refine bodyPost_ret (v := .tuple #[.bool false, .bool false, .bool false, .bool false]) (by simp [results, Try.results43, go_sem]; try rfl) rfl ?_
    exact ⟨rfl, rfl⟩
  · show Calls Try.prog 43 #[.int .i64 9] w _
    go_enter Try.func43, Try.ntmps43
    go_wp2
    refine bodyPost_ret (v := .tuple #[.bool false, .bool false, .bool false, .bool false]) (by simp [results, Try.results43, go_sem]; try rfl) rfl ?_
    exact ⟨rfl, rfl⟩
set_option maxHeartbeats 2000000 in
theorem rnum_any (n : Nat) (w : World) (hn : n ≤ 9223372036854775807) :
    Calls Try.prog 20 #[.int .i64 n] w fun e w' => e = .returned (.string ⟨(pvL 9 n).toArray⟩) ∧ Below w.heap.size w w' := by
  have hw : IntKind.u64.wrap (n : Int) = (n : Int) := by rw [IntKind.wrap_u64]; omega
  have hP := rputvar_any n w (by omega)
  clear hn
  go_enter Try.func20, Try.ntmps20
  go_wp2_with (go_at_call 45; refine hP.mono ?_; clear hP; rintro e w1 ⟨rfl, b1⟩)
  go_ret
  exact ⟨rfl, b1⟩
theorem bsz (l : List UInt8) : (⟨l.toArray⟩ : ByteArray).size = l.length := List.size_toArray
theorem rqE_self (p : Rq) : rqE p p = true := (rqE_iff p p).2 rfl
theorem rqE_ne {p q : Rq} (h : p ≠ q) : rqE p q = false := by
  cases e : rqE p q with
  | false => rfl
  | true => exact absurd ((rqE_iff p q).1 e) h
theorem app_str' (x : List UInt8) (y : List UInt8) : (⟨x.toArray⟩ : ByteArray) ++ ⟨y.toArray⟩ = ⟨(x ++ y).toArray⟩ := by
  apply ByteArray.ext
  rw [ByteArray.data_append]
  simp
theorem app_str (x y : List UInt8) : (⟨x.toArray⟩ : ByteArray) ++ ⟨y.toArray⟩ = ⟨(x ++ y).toArray⟩ := by
  apply ByteArray.ext
  rw [ByteArray.data_append]
  simp
set_option maxHeartbeats 2000000 in
theorem rtxt_any (t : ByteArray) (w : World) (hn : t.size ≤ 65536) :
    Calls Try.prog 22 #[.string t] w fun e w' => e = .returned (.string ⟨(wrT t).toArray⟩) ∧ Below w.heap.size w w' := by
  have hP := rnum_any t.size w (by omega)
  have HE := Hid.mk (show (⟨(pvL 9 t.size).toArray⟩ : ByteArray) ++ t = ⟨(wrT t).toArray⟩ from by
    have := app_str (pvL 9 t.size) t.data.toList
    simpa [wrT] using this)
  obtain ⟨X, hX⟩ : ∃ X : ByteArray, X = ⟨(pvL 9 t.size).toArray⟩ := ⟨_, rfl⟩
  have hsz : ¬ 9223372036854775807 < X.size + t.size := by
    have : X.size = (pvL 9 t.size).length := by rw [hX]; exact bsz _
    have := (pvL_len 9 t.size).2
    omega
  rw [← hX] at hP HE
  clear hX hn
  go_enter Try.func22, Try.ntmps22
  go_wp2_with (go_at_call 20; refine hP.mono ?_; clear hP; rintro e w1 ⟨rfl, b1⟩)
  go_ret
  refine ⟨?_, b1⟩
  rw [← HE.out]
  rfl
set_option maxHeartbeats 2000000 in
theorem rask_kind (q : Rq) (w : World) (h : ¬ (1 ≤ q.op ∧ q.op ≤ 9)) :
    Calls Try.prog 16 #[.agg (rqV q)] w fun e w' => e = .returned (.tuple #[.string eB, .int .i64 35]) ∧ Below w.heap.size w w' := by
  obtain ⟨op, id, c, k, r⟩ := q
  simp only at h
  have h0 := HC.new w #[.int .i64 op, .int .i64 id, .string c, .int .i64 k, .int .i64 r] 40
  have HB := Hid.mk ((Below.refl _ w).alloc (Nat.le_refl _) (.cells #[.int .i64 op, .int .i64 id, .string c, .int .i64 k, .int .i64 r] 40))
  by_cases h1 : op < 1
  · clear h0 h
    go_enter Try.func16, Try.ntmps16
    go_wp2
    go_ret2
    exact ⟨rfl, HB.out⟩
  · have h2 : 9 < op := by omega
    clear h0 h
    go_enter Try.func16, Try.ntmps16
    go_wp2
    go_ret2
    exact ⟨rfl, HB.out⟩
theorem two_bytes (w : World) (m : Nat) (d : UInt8) (hd : d.toNat = m) : (convert 54 9 (.slice (some ⟨w.heap.size, 0, none⟩) 2 2)).run Try.prog (w.alloc (.cells #[.int .u8 81, .int .u8 m] 5)) = .ok (.string ⟨#[81, d]⟩) (w.alloc (.cells #[.int .u8 81, .int .u8 m] 5)) := by
  have h := HC.new w #[.int .u8 81, .int .u8 m] 5
  refine run_convert_bytes_back _ 54 9 5 ⟨w.heap.size, 0, none⟩ 2 [81, d] Try.underlying54 Try.underlying5 Try.underlying9 (fun j hj => ?_)
  have e : (⟨w.heap.size, 0, none⟩ : Addr).add j = ⟨w.heap.size, j, none⟩ := by unfold Addr.add; split <;> simp_all
  rw [e]
  have : j = 0 ∨ j = 1 := by simp at hj; omega
  rcases this with rfl | rfl
  · exact h.cell rfl
  · rw [h.cell rfl, ← hd]; rfl
set_option maxHeartbeats 4000000 in
set_option maxRecDepth 100000 in
theorem rask_A (i : Nat) (hi : i < 9) (hnm : nmQ i = (true, true, false, false)) (q : Rq) (hop : q.op = (i + 1 : Nat)) (hW : RqW q) (w : World) (A : List UInt8 × Int) (hA : A = askA q)
    (hcl : clQ i q = ⟨q.op, 0, eB, q.k, q.r⟩) (hck : ckQ i q = (decide (q.id < 0), decide (65536 < q.c.size)))
    (hwr : wrQ i q = wrN q.id ++ wrT q.c) :
    Calls Try.prog 16 #[.agg (rqV q)] w fun e w' => e = .returned (.tuple #[.string ⟨A.1.toArray⟩, .int .i64 A.2]) ∧ Below w.heap.size w w' := by
  have hst : stQ i q = !rqE ⟨q.op, 0, eB, q.k, q.r⟩ ⟨(i + 1 : Nat), 0, eB, 0, 0⟩ := by unfold stQ; rw [hcl]
  have hAA : A = if stQ i q then ([], 32) else if ckE (ckQ i q).1 (ckQ i q).2 0 ≠ 0 then ([], ckE (ckQ i q).1 (ckQ i q).2 0) else ([81, UInt8.ofNat (i + 1)] ++ wrQ i q, 0) := by
    rw [hA]; unfold askA
    have e : q.op.toNat = i + 1 := by omega
    rw [if_pos (by omega), e, Nat.add_sub_cancel]
  rw [hst, hck, hwr] at hAA
  clear hA hst hcl hck hwr
  obtain ⟨W1, W2, W3⟩ := hW
  obtain ⟨op, id, c, k, r⟩ := q
  simp only at hop W1 W2 W3 hAA
  obtain ⟨m, hm⟩ : ∃ m, m = i + 1 := ⟨_, rfl⟩
  rw [← hm] at hop hAA
  subst hop
  have g1 : ¬ (m : Int) < 1 := by omega
  have g2 : ¬ (9 : Int) < (m : Int) := by omega
  have hm9 : m ≤ 9 := by omega
  have hd : (UInt8.ofNat m).toNat = m := by rw [UInt8.toNat_ofNat']; omega
  have HW8 := Hid.mk (show IntKind.u8.wrap (m : Int) = (m : Int) by rw [IntKind.wrap_u8]; omega)
  obtain ⟨d, hde⟩ : ∃ d, d = UInt8.ofNat m := ⟨_, rfl⟩
  rw [← hde] at hd hAA
  by_cases hzk : k = 0
  · subst hzk
    by_cases hzr : r = 0
    · subst hzr
      rw [rqE_self, if_neg (by simp)] at hAA
      by_cases hrid : id < 0
      · skip
        have hA3 : A = ([], 13) := by rw [hAA, decide_eq_true hrid]; rfl
        clear hAA
        have hAA := hA3
        clear hA3
        have h0 := HC.new w #[.int .i64 m, .int .i64 id, .string c, .int .i64 0, .int .i64 0] 40
        have bA : Below w.heap.size w (w.alloc (.cells #[.int .i64 m, .int .i64 id, .string c, .int .i64 0, .int .i64 0] 40)) := (Below.refl _ w).alloc (Nat.le_refl _) _
        obtain ⟨V, hV⟩ : ∃ V, V = w.alloc (.cells #[.int .i64 m, .int .i64 id, .string c, .int .i64 0, .int .i64 0] 40) := ⟨_, rfl⟩
        have hV5 := hV.symm
        rw [← hV] at h0 bA
        have y0 : V.cell? ⟨w.heap.size, 0, none⟩ = some (.int .i64 m) := h0.cell rfl
        have y1 : V.cell? ⟨w.heap.size, 1, none⟩ = some (.int .i64 id) := h0.cell rfl
        have y2 : V.cell? ⟨w.heap.size, 2, none⟩ = some (.string c) := h0.cell rfl
        have y3 : V.cell? ⟨w.heap.size, 3, none⟩ = some (.int .i64 0) := h0.cell rfl
        have y4 : V.cell? ⟨w.heap.size, 4, none⟩ = some (.int .i64 0) := h0.cell rfl
        have hN := names_any i hi V
        rw [hnm, ← hm] at hN
        have H0 := Hid.mk (And.intro h0 bA)
        clear h0 bA hV
        have HA := Hid.mk hAA
        clear hAA hde hd HW8 hm9 hi hm hnm W1 W2 W3
        go_enter Try.func16, Try.ntmps16
        go_wp2_with (go_at_call 43; (try rw [hV5]); refine hN.mono ?_; clear hN; rintro e w1 ⟨rfl, rfl⟩)
        go_ret2
        refine ⟨?_, H0.out.2⟩
        rw [HA.out]
        rfl
      · obtain ⟨nn, hnn⟩ : ∃ nn : Nat, id = nn := ⟨id.toNat, by omega⟩
        subst hnn
        by_cases hbig : 65536 < c.size
        · have hbig2 : (65536 : Int) < (c.size : Int) := by omega
          have hA3 : A = ([], 36) := by rw [hAA, decide_eq_true hbig, decide_eq_false (by omega)]; rfl
          clear hAA
          have hAA := hA3
          clear hA3
          have h0 := HC.new w #[.int .i64 m, .int .i64 nn, .string c, .int .i64 0, .int .i64 0] 40
          have bA : Below w.heap.size w (w.alloc (.cells #[.int .i64 m, .int .i64 nn, .string c, .int .i64 0, .int .i64 0] 40)) := (Below.refl _ w).alloc (Nat.le_refl _) _
          obtain ⟨V, hV⟩ : ∃ V, V = w.alloc (.cells #[.int .i64 m, .int .i64 nn, .string c, .int .i64 0, .int .i64 0] 40) := ⟨_, rfl⟩
          have hV5 := hV.symm
          rw [← hV] at h0 bA
          have y0 : V.cell? ⟨w.heap.size, 0, none⟩ = some (.int .i64 m) := h0.cell rfl
          have y1 : V.cell? ⟨w.heap.size, 1, none⟩ = some (.int .i64 nn) := h0.cell rfl
          have y2 : V.cell? ⟨w.heap.size, 2, none⟩ = some (.string c) := h0.cell rfl
          have y3 : V.cell? ⟨w.heap.size, 3, none⟩ = some (.int .i64 0) := h0.cell rfl
          have y4 : V.cell? ⟨w.heap.size, 4, none⟩ = some (.int .i64 0) := h0.cell rfl
          have hN := names_any i hi V
          rw [hnm, ← hm] at hN
          have H0 := Hid.mk (And.intro h0 bA)
          clear h0 bA hV
          have HA := Hid.mk hAA
          clear hAA hde hd HW8 hm9 hi hm hnm W1 W2 W3
          go_enter Try.func16, Try.ntmps16
          go_wp2_with (go_at_call 43; (try rw [hV5]); refine hN.mono ?_; clear hN; rintro e w1 ⟨rfl, rfl⟩)
          go_ret2
          refine ⟨?_, H0.out.2⟩
          rw [HA.out]
          rfl
        · have hbig2 : ¬ (65536 : Int) < (c.size : Int) := by omega
          have h0 := HC.new w #[.int .i64 m, .int .i64 nn, .string c, .int .i64 0, .int .i64 0] 40
          have bA : Below w.heap.size w (w.alloc (.cells #[.int .i64 m, .int .i64 nn, .string c, .int .i64 0, .int .i64 0] 40)) := (Below.refl _ w).alloc (Nat.le_refl _) _
          obtain ⟨V, hV⟩ : ∃ V, V = w.alloc (.cells #[.int .i64 m, .int .i64 nn, .string c, .int .i64 0, .int .i64 0] 40) := ⟨_, rfl⟩
          have hV5 := hV.symm
          rw [← hV] at h0 bA
          have y0 : V.cell? ⟨w.heap.size, 0, none⟩ = some (.int .i64 m) := h0.cell rfl
          have y1 : V.cell? ⟨w.heap.size, 1, none⟩ = some (.int .i64 nn) := h0.cell rfl
          have y2 : V.cell? ⟨w.heap.size, 2, none⟩ = some (.string c) := h0.cell rfl
          have y3 : V.cell? ⟨w.heap.size, 3, none⟩ = some (.int .i64 0) := h0.cell rfl
          have y4 : V.cell? ⟨w.heap.size, 4, none⟩ = some (.int .i64 0) := h0.cell rfl
          have hN := names_any i hi V
          rw [hnm, ← hm] at hN
          have H0 := Hid.mk (And.intro h0 bA)
          clear h0 bA hV
          have hT0 := fun W => rnum_any nn W (by omega)
          have hl0 : (pvL 9 nn).length ≤ 65546 := by have := (pvL_len 9 nn).2; omega
          obtain ⟨X0, hX0⟩ : ∃ X : ByteArray, X = ⟨(pvL 9 nn).toArray⟩ := ⟨_, rfl⟩
          have hs0 : X0.size ≤ 65546 := by rw [hX0, bsz]; exact hl0
          rw [← hX0] at hT0
          have hT1 := fun W => rtxt_any c W (by omega)
          have hl1 : (wrT c).length ≤ 65546 := by have := (pvL_len 9 c.size).2; have := nm_size c; simp only [wrT, List.length_append]; omega
          obtain ⟨X1, hX1⟩ : ∃ X : ByteArray, X = ⟨(wrT c).toArray⟩ := ⟨_, rfl⟩
          have hs1 : X1.size ≤ 65546 := by rw [hX1, bsz]; exact hl1
          rw [← hX1] at hT1
          have h2b := two_bytes V m d hd
          obtain ⟨P2, hP2⟩ : ∃ P2 : ByteArray, P2 = ⟨#[81, d]⟩ := ⟨_, rfl⟩
          have hp2 : P2.size = 2 := by rw [hP2]; rfl
          rw [← hP2] at h2b
          have k1 : HC (V.alloc (.cells #[.int .u8 81, .int .u8 m] 5)) w.heap.size #[.int .i64 m, .int .i64 nn, .string c, .int .i64 0, .int .i64 0] 40 := HC.alloc H0.out.1 _
          have b1 : Below w.heap.size w (V.alloc (.cells #[.int .u8 81, .int .u8 m] 5)) := H0.out.2.alloc H0.out.2.size _
          have l1 := H0.out.1.lt
          have z1 : ¬ 9223372036854775807 < P2.size + X0.size := by omega
          have z2 : ¬ 9223372036854775807 < P2.size + X0.size + X1.size := by omega
          have u0 : (V.alloc (.cells #[.int .u8 81, .int .u8 m] 5)).cell? ⟨w.heap.size, 0, none⟩ = some (.int .i64 m) := k1.cell rfl
          have u1 : (V.alloc (.cells #[.int .u8 81, .int .u8 m] 5)).cell? ⟨w.heap.size, 1, none⟩ = some (.int .i64 nn) := k1.cell rfl
          have u2 : (V.alloc (.cells #[.int .u8 81, .int .u8 m] 5)).cell? ⟨w.heap.size, 2, none⟩ = some (.string c) := k1.cell rfl
          have u3 : (V.alloc (.cells #[.int .u8 81, .int .u8 m] 5)).cell? ⟨w.heap.size, 3, none⟩ = some (.int .i64 0) := k1.cell rfl
          have u4 : (V.alloc (.cells #[.int .u8 81, .int .u8 m] 5)).cell? ⟨w.heap.size, 4, none⟩ = some (.int .i64 0) := k1.cell rfl
          have HE : Hid (P2 ++ X0 ++ X1 = ⟨(([81, d] ++ pvL 9 nn) ++ wrT c).toArray⟩) := by
            show _ = _
            rw [hP2, hX0, hX1]
            rw [app_str' [81, d]]
            rw [app_str]
          have hA3 : A = ([81, d] ++ (pvL 9 nn ++ wrT c), 0) := by rw [hAA, decide_eq_false (by omega : ¬ (nn : Int) < 0), decide_eq_false hbig]; rfl
          clear hAA
          have hAA := hA3
          clear hA3
          have HA := Hid.mk hAA
          have hw8 := HW8.out
          clear hAA hde hd HW8 hm9 hi hm hnm W1 W2 W3 hp2 hP2 hX0 hs0 hl0 hX1 hs1 hl1
          go_enter Try.func16, Try.ntmps16
          go_wp2_with (first | (go_at_call 43; (try rw [hV5]); refine hN.mono ?_; clear hN; rintro e w1 ⟨rfl, rfl⟩) | (go_at_call 20; refine (hT0 _).mono ?_; clear hT0; rintro e w5 ⟨rfl, b5⟩; have k5 := k1.below b5; have uw50 : w5.cell? ⟨w.heap.size, 0, none⟩ = some (.int .i64 m) := k5.cell rfl; have uw51 : w5.cell? ⟨w.heap.size, 1, none⟩ = some (.int .i64 nn) := k5.cell rfl; have uw52 : w5.cell? ⟨w.heap.size, 2, none⟩ = some (.string c) := k5.cell rfl; have uw53 : w5.cell? ⟨w.heap.size, 3, none⟩ = some (.int .i64 0) := k5.cell rfl; have uw54 : w5.cell? ⟨w.heap.size, 4, none⟩ = some (.int .i64 0) := k5.cell rfl) | (go_at_call 22; refine (hT1 _).mono ?_; clear hT1; rintro e w6 ⟨rfl, b6⟩; have k6 := k5.below b6; have uw60 : w6.cell? ⟨w.heap.size, 0, none⟩ = some (.int .i64 m) := k6.cell rfl; have uw61 : w6.cell? ⟨w.heap.size, 1, none⟩ = some (.int .i64 nn) := k6.cell rfl; have uw62 : w6.cell? ⟨w.heap.size, 2, none⟩ = some (.string c) := k6.cell rfl; have uw63 : w6.cell? ⟨w.heap.size, 3, none⟩ = some (.int .i64 0) := k6.cell rfl; have uw64 : w6.cell? ⟨w.heap.size, 4, none⟩ = some (.int .i64 0) := k6.cell rfl))
          go_ret2
          refine ⟨?_, chain (chain b1 b5 (Nat.le_refl _)) b6 (Nat.le_refl _)⟩
          rw [HA.out]
          have he := HE.out
          show Ending.returned (.tuple #[.string (P2 ++ X0 ++ X1), .int .i64 0]) = _
          rw [he]
          rw [List.append_assoc]
    · skip
      have hA3 : A = ([], 32) := by rw [hAA, rqE_ne (fun e => hzr (congrArg Rq.r e))]; rfl
      clear hAA
      have hAA := hA3
      clear hA3
      have h0 := HC.new w #[.int .i64 m, .int .i64 id, .string c, .int .i64 0, .int .i64 r] 40
      have bA : Below w.heap.size w (w.alloc (.cells #[.int .i64 m, .int .i64 id, .string c, .int .i64 0, .int .i64 r] 40)) := (Below.refl _ w).alloc (Nat.le_refl _) _
      obtain ⟨V, hV⟩ : ∃ V, V = w.alloc (.cells #[.int .i64 m, .int .i64 id, .string c, .int .i64 0, .int .i64 r] 40) := ⟨_, rfl⟩
      have hV5 := hV.symm
      rw [← hV] at h0 bA
      have y0 : V.cell? ⟨w.heap.size, 0, none⟩ = some (.int .i64 m) := h0.cell rfl
      have y1 : V.cell? ⟨w.heap.size, 1, none⟩ = some (.int .i64 id) := h0.cell rfl
      have y2 : V.cell? ⟨w.heap.size, 2, none⟩ = some (.string c) := h0.cell rfl
      have y3 : V.cell? ⟨w.heap.size, 3, none⟩ = some (.int .i64 0) := h0.cell rfl
      have y4 : V.cell? ⟨w.heap.size, 4, none⟩ = some (.int .i64 r) := h0.cell rfl
      have hN := names_any i hi V
      rw [hnm, ← hm] at hN
      have H0 := Hid.mk (And.intro h0 bA)
      clear h0 bA hV
      have HA := Hid.mk hAA
      clear hAA hde hd HW8 hm9 hi hm hnm W1 W2 W3
      go_enter Try.func16, Try.ntmps16
      go_wp2_with (go_at_call 43; (try rw [hV5]); refine hN.mono ?_; clear hN; rintro e w1 ⟨rfl, rfl⟩)
      go_ret2
      refine ⟨?_, H0.out.2⟩
      rw [HA.out]
      rfl
  · skip
    have hA3 : A = ([], 32) := by rw [hAA, rqE_ne (fun e => hzk (congrArg Rq.k e))]; rfl
    clear hAA
    have hAA := hA3
    clear hA3
    have h0 := HC.new w #[.int .i64 m, .int .i64 id, .string c, .int .i64 k, .int .i64 r] 40
    have bA : Below w.heap.size w (w.alloc (.cells #[.int .i64 m, .int .i64 id, .string c, .int .i64 k, .int .i64 r] 40)) := (Below.refl _ w).alloc (Nat.le_refl _) _
    obtain ⟨V, hV⟩ : ∃ V, V = w.alloc (.cells #[.int .i64 m, .int .i64 id, .string c, .int .i64 k, .int .i64 r] 40) := ⟨_, rfl⟩
    have hV5 := hV.symm
    rw [← hV] at h0 bA
    have y0 : V.cell? ⟨w.heap.size, 0, none⟩ = some (.int .i64 m) := h0.cell rfl
    have y1 : V.cell? ⟨w.heap.size, 1, none⟩ = some (.int .i64 id) := h0.cell rfl
    have y2 : V.cell? ⟨w.heap.size, 2, none⟩ = some (.string c) := h0.cell rfl
    have y3 : V.cell? ⟨w.heap.size, 3, none⟩ = some (.int .i64 k) := h0.cell rfl
    have y4 : V.cell? ⟨w.heap.size, 4, none⟩ = some (.int .i64 r) := h0.cell rfl
    have hN := names_any i hi V
    rw [hnm, ← hm] at hN
    have H0 := Hid.mk (And.intro h0 bA)
    clear h0 bA hV
    have HA := Hid.mk hAA
    clear hAA hde hd HW8 hm9 hi hm hnm W1 W2 W3
    go_enter Try.func16, Try.ntmps16
    go_wp2_with (go_at_call 43; (try rw [hV5]); refine hN.mono ?_; clear hN; rintro e w1 ⟨rfl, rfl⟩)
    go_ret2
    refine ⟨?_, H0.out.2⟩
    rw [HA.out]
    rfl
set_option maxHeartbeats 4000000 in
set_option maxRecDepth 100000 in
theorem rask_B (i : Nat) (hi : i < 9) (hnm : nmQ i = (true, false, false, false)) (q : Rq) (hop : q.op = (i + 1 : Nat)) (hW : RqW q) (w : World) (A : List UInt8 × Int) (hA : A = askA q)
    (hcl : clQ i q = ⟨q.op, 0, q.c, q.k, q.r⟩) (hck : ckQ i q = (decide (q.id < 0), false))
    (hwr : wrQ i q = wrN q.id) :
    Calls Try.prog 16 #[.agg (rqV q)] w fun e w' => e = .returned (.tuple #[.string ⟨A.1.toArray⟩, .int .i64 A.2]) ∧ Below w.heap.size w w' := by
  have hst : stQ i q = !rqE ⟨q.op, 0, q.c, q.k, q.r⟩ ⟨(i + 1 : Nat), 0, eB, 0, 0⟩ := by unfold stQ; rw [hcl]
  have hAA : A = if stQ i q then ([], 32) else if ckE (ckQ i q).1 (ckQ i q).2 0 ≠ 0 then ([], ckE (ckQ i q).1 (ckQ i q).2 0) else ([81, UInt8.ofNat (i + 1)] ++ wrQ i q, 0) := by
    rw [hA]; unfold askA
    have e : q.op.toNat = i + 1 := by omega
    rw [if_pos (by omega), e, Nat.add_sub_cancel]
  rw [hst, hck, hwr] at hAA
  clear hA hst hcl hck hwr
  obtain ⟨W1, W2, W3⟩ := hW
  obtain ⟨op, id, c, k, r⟩ := q
  simp only at hop W1 W2 W3 hAA
  obtain ⟨m, hm⟩ : ∃ m, m = i + 1 := ⟨_, rfl⟩
  rw [← hm] at hop hAA
  subst hop
  have g1 : ¬ (m : Int) < 1 := by omega
  have g2 : ¬ (9 : Int) < (m : Int) := by omega
  have hm9 : m ≤ 9 := by omega
  have hd : (UInt8.ofNat m).toNat = m := by rw [UInt8.toNat_ofNat']; omega
  have HW8 := Hid.mk (show IntKind.u8.wrap (m : Int) = (m : Int) by rw [IntKind.wrap_u8]; omega)
  obtain ⟨d, hde⟩ : ∃ d, d = UInt8.ofNat m := ⟨_, rfl⟩
  rw [← hde] at hd hAA
  by_cases hzc : c = eB
  · subst hzc
    by_cases hzk : k = 0
    · subst hzk
      by_cases hzr : r = 0
      · subst hzr
        rw [rqE_self, if_neg (by simp)] at hAA
        by_cases hrid : id < 0
        · skip
          have hA3 : A = ([], 13) := by rw [hAA, decide_eq_true hrid]; rfl
          clear hAA
          have hAA := hA3
          clear hA3
          have h0 := HC.new w #[.int .i64 m, .int .i64 id, .string ⟨#[]⟩, .int .i64 0, .int .i64 0] 40
          have bA : Below w.heap.size w (w.alloc (.cells #[.int .i64 m, .int .i64 id, .string ⟨#[]⟩, .int .i64 0, .int .i64 0] 40)) := (Below.refl _ w).alloc (Nat.le_refl _) _
          obtain ⟨V, hV⟩ : ∃ V, V = w.alloc (.cells #[.int .i64 m, .int .i64 id, .string ⟨#[]⟩, .int .i64 0, .int .i64 0] 40) := ⟨_, rfl⟩
          have hV5 := hV.symm
          rw [← hV] at h0 bA
          have y0 : V.cell? ⟨w.heap.size, 0, none⟩ = some (.int .i64 m) := h0.cell rfl
          have y1 : V.cell? ⟨w.heap.size, 1, none⟩ = some (.int .i64 id) := h0.cell rfl
          have y2 : V.cell? ⟨w.heap.size, 2, none⟩ = some (.string ⟨#[]⟩) := h0.cell rfl
          have y3 : V.cell? ⟨w.heap.size, 3, none⟩ = some (.int .i64 0) := h0.cell rfl
          have y4 : V.cell? ⟨w.heap.size, 4, none⟩ = some (.int .i64 0) := h0.cell rfl
          have hN := names_any i hi V
          rw [hnm, ← hm] at hN
          have H0 := Hid.mk (And.intro h0 bA)
          clear h0 bA hV
          have HA := Hid.mk hAA
          clear hAA hde hd HW8 hm9 hi hm hnm W1 W2 W3
          go_enter Try.func16, Try.ntmps16
          go_wp2_with (go_at_call 43; (try rw [hV5]); refine hN.mono ?_; clear hN; rintro e w1 ⟨rfl, rfl⟩)
          go_ret2
          refine ⟨?_, H0.out.2⟩
          rw [HA.out]
          rfl
        · obtain ⟨nn, hnn⟩ : ∃ nn : Nat, id = nn := ⟨id.toNat, by omega⟩
          subst hnn
          have h0 := HC.new w #[.int .i64 m, .int .i64 nn, .string ⟨#[]⟩, .int .i64 0, .int .i64 0] 40
          have bA : Below w.heap.size w (w.alloc (.cells #[.int .i64 m, .int .i64 nn, .string ⟨#[]⟩, .int .i64 0, .int .i64 0] 40)) := (Below.refl _ w).alloc (Nat.le_refl _) _
          obtain ⟨V, hV⟩ : ∃ V, V = w.alloc (.cells #[.int .i64 m, .int .i64 nn, .string ⟨#[]⟩, .int .i64 0, .int .i64 0] 40) := ⟨_, rfl⟩
          have hV5 := hV.symm
          rw [← hV] at h0 bA
          have y0 : V.cell? ⟨w.heap.size, 0, none⟩ = some (.int .i64 m) := h0.cell rfl
          have y1 : V.cell? ⟨w.heap.size, 1, none⟩ = some (.int .i64 nn) := h0.cell rfl
          have y2 : V.cell? ⟨w.heap.size, 2, none⟩ = some (.string ⟨#[]⟩) := h0.cell rfl
          have y3 : V.cell? ⟨w.heap.size, 3, none⟩ = some (.int .i64 0) := h0.cell rfl
          have y4 : V.cell? ⟨w.heap.size, 4, none⟩ = some (.int .i64 0) := h0.cell rfl
          have hN := names_any i hi V
          rw [hnm, ← hm] at hN
          have H0 := Hid.mk (And.intro h0 bA)
          clear h0 bA hV
          have hT0 := fun W => rnum_any nn W (by omega)
          have hl0 : (pvL 9 nn).length ≤ 65546 := by have := (pvL_len 9 nn).2; omega
          obtain ⟨X0, hX0⟩ : ∃ X : ByteArray, X = ⟨(pvL 9 nn).toArray⟩ := ⟨_, rfl⟩
          have hs0 : X0.size ≤ 65546 := by rw [hX0, bsz]; exact hl0
          rw [← hX0] at hT0
          have h2b := two_bytes V m d hd
          obtain ⟨P2, hP2⟩ : ∃ P2 : ByteArray, P2 = ⟨#[81, d]⟩ := ⟨_, rfl⟩
          have hp2 : P2.size = 2 := by rw [hP2]; rfl
          rw [← hP2] at h2b
          have k1 : HC (V.alloc (.cells #[.int .u8 81, .int .u8 m] 5)) w.heap.size #[.int .i64 m, .int .i64 nn, .string ⟨#[]⟩, .int .i64 0, .int .i64 0] 40 := HC.alloc H0.out.1 _
          have b1 : Below w.heap.size w (V.alloc (.cells #[.int .u8 81, .int .u8 m] 5)) := H0.out.2.alloc H0.out.2.size _
          have l1 := H0.out.1.lt
          have z1 : ¬ 9223372036854775807 < P2.size + X0.size := by omega
          have u0 : (V.alloc (.cells #[.int .u8 81, .int .u8 m] 5)).cell? ⟨w.heap.size, 0, none⟩ = some (.int .i64 m) := k1.cell rfl
          have u1 : (V.alloc (.cells #[.int .u8 81, .int .u8 m] 5)).cell? ⟨w.heap.size, 1, none⟩ = some (.int .i64 nn) := k1.cell rfl
          have u2 : (V.alloc (.cells #[.int .u8 81, .int .u8 m] 5)).cell? ⟨w.heap.size, 2, none⟩ = some (.string ⟨#[]⟩) := k1.cell rfl
          have u3 : (V.alloc (.cells #[.int .u8 81, .int .u8 m] 5)).cell? ⟨w.heap.size, 3, none⟩ = some (.int .i64 0) := k1.cell rfl
          have u4 : (V.alloc (.cells #[.int .u8 81, .int .u8 m] 5)).cell? ⟨w.heap.size, 4, none⟩ = some (.int .i64 0) := k1.cell rfl
          have HE : Hid (P2 ++ X0 = ⟨([81, d] ++ pvL 9 nn).toArray⟩) := by
            show _ = _
            rw [hP2, hX0]
            rw [app_str' [81, d]]
          have hA3 : A = ([81, d] ++ (pvL 9 nn), 0) := by rw [hAA, decide_eq_false (by omega : ¬ (nn : Int) < 0)]; rfl
          clear hAA
          have hAA := hA3
          clear hA3
          have HA := Hid.mk hAA
          have hw8 := HW8.out
          clear hAA hde hd HW8 hm9 hi hm hnm W1 W2 W3 hp2 hP2 hX0 hs0 hl0
          go_enter Try.func16, Try.ntmps16
          go_wp2_with (first | (go_at_call 43; (try rw [hV5]); refine hN.mono ?_; clear hN; rintro e w1 ⟨rfl, rfl⟩) | (go_at_call 20; refine (hT0 _).mono ?_; clear hT0; rintro e w5 ⟨rfl, b5⟩; have k5 := k1.below b5; have uw50 : w5.cell? ⟨w.heap.size, 0, none⟩ = some (.int .i64 m) := k5.cell rfl; have uw51 : w5.cell? ⟨w.heap.size, 1, none⟩ = some (.int .i64 nn) := k5.cell rfl; have uw52 : w5.cell? ⟨w.heap.size, 2, none⟩ = some (.string ⟨#[]⟩) := k5.cell rfl; have uw53 : w5.cell? ⟨w.heap.size, 3, none⟩ = some (.int .i64 0) := k5.cell rfl; have uw54 : w5.cell? ⟨w.heap.size, 4, none⟩ = some (.int .i64 0) := k5.cell rfl))
          go_ret2
          refine ⟨?_, chain b1 b5 (Nat.le_refl _)⟩
          rw [HA.out]
          have he := HE.out
          show Ending.returned (.tuple #[.string (P2 ++ X0), .int .i64 0]) = _
          rw [he]
      · skip
        have hA3 : A = ([], 32) := by rw [hAA, rqE_ne (fun e => hzr (congrArg Rq.r e))]; rfl
        clear hAA
        have hAA := hA3
        clear hA3
        have h0 := HC.new w #[.int .i64 m, .int .i64 id, .string ⟨#[]⟩, .int .i64 0, .int .i64 r] 40
        have bA : Below w.heap.size w (w.alloc (.cells #[.int .i64 m, .int .i64 id, .string ⟨#[]⟩, .int .i64 0, .int .i64 r] 40)) := (Below.refl _ w).alloc (Nat.le_refl _) _
        obtain ⟨V, hV⟩ : ∃ V, V = w.alloc (.cells #[.int .i64 m, .int .i64 id, .string ⟨#[]⟩, .int .i64 0, .int .i64 r] 40) := ⟨_, rfl⟩
        have hV5 := hV.symm
        rw [← hV] at h0 bA
        have y0 : V.cell? ⟨w.heap.size, 0, none⟩ = some (.int .i64 m) := h0.cell rfl
        have y1 : V.cell? ⟨w.heap.size, 1, none⟩ = some (.int .i64 id) := h0.cell rfl
        have y2 : V.cell? ⟨w.heap.size, 2, none⟩ = some (.string ⟨#[]⟩) := h0.cell rfl
        have y3 : V.cell? ⟨w.heap.size, 3, none⟩ = some (.int .i64 0) := h0.cell rfl
        have y4 : V.cell? ⟨w.heap.size, 4, none⟩ = some (.int .i64 r) := h0.cell rfl
        have hN := names_any i hi V
        rw [hnm, ← hm] at hN
        have H0 := Hid.mk (And.intro h0 bA)
        clear h0 bA hV
        have HA := Hid.mk hAA
        clear hAA hde hd HW8 hm9 hi hm hnm W1 W2 W3
        go_enter Try.func16, Try.ntmps16
        go_wp2_with (go_at_call 43; (try rw [hV5]); refine hN.mono ?_; clear hN; rintro e w1 ⟨rfl, rfl⟩)
        go_ret2
        refine ⟨?_, H0.out.2⟩
        rw [HA.out]
        rfl
    · skip
      have hA3 : A = ([], 32) := by rw [hAA, rqE_ne (fun e => hzk (congrArg Rq.k e))]; rfl
      clear hAA
      have hAA := hA3
      clear hA3
      have h0 := HC.new w #[.int .i64 m, .int .i64 id, .string ⟨#[]⟩, .int .i64 k, .int .i64 r] 40
      have bA : Below w.heap.size w (w.alloc (.cells #[.int .i64 m, .int .i64 id, .string ⟨#[]⟩, .int .i64 k, .int .i64 r] 40)) := (Below.refl _ w).alloc (Nat.le_refl _) _
      obtain ⟨V, hV⟩ : ∃ V, V = w.alloc (.cells #[.int .i64 m, .int .i64 id, .string ⟨#[]⟩, .int .i64 k, .int .i64 r] 40) := ⟨_, rfl⟩
      have hV5 := hV.symm
      rw [← hV] at h0 bA
      have y0 : V.cell? ⟨w.heap.size, 0, none⟩ = some (.int .i64 m) := h0.cell rfl
      have y1 : V.cell? ⟨w.heap.size, 1, none⟩ = some (.int .i64 id) := h0.cell rfl
      have y2 : V.cell? ⟨w.heap.size, 2, none⟩ = some (.string ⟨#[]⟩) := h0.cell rfl
      have y3 : V.cell? ⟨w.heap.size, 3, none⟩ = some (.int .i64 k) := h0.cell rfl
      have y4 : V.cell? ⟨w.heap.size, 4, none⟩ = some (.int .i64 r) := h0.cell rfl
      have hN := names_any i hi V
      rw [hnm, ← hm] at hN
      have H0 := Hid.mk (And.intro h0 bA)
      clear h0 bA hV
      have HA := Hid.mk hAA
      clear hAA hde hd HW8 hm9 hi hm hnm W1 W2 W3
      go_enter Try.func16, Try.ntmps16
      go_wp2_with (go_at_call 43; (try rw [hV5]); refine hN.mono ?_; clear hN; rintro e w1 ⟨rfl, rfl⟩)
      go_ret2
      refine ⟨?_, H0.out.2⟩
      rw [HA.out]
      rfl
  · have hc2 : ¬ c.toList = [] := fun h => by
      rw [ByteArray.toList_eq] at h
      exact hzc (ByteArray.ext (Array.toList_inj.1 h))
    have hA3 : A = ([], 32) := by rw [hAA, rqE_ne (fun e => hzc (congrArg Rq.c e))]; rfl
    clear hAA
    have hAA := hA3
    clear hA3
    have h0 := HC.new w #[.int .i64 m, .int .i64 id, .string c, .int .i64 k, .int .i64 r] 40
    have bA : Below w.heap.size w (w.alloc (.cells #[.int .i64 m, .int .i64 id, .string c, .int .i64 k, .int .i64 r] 40)) := (Below.refl _ w).alloc (Nat.le_refl _) _
    obtain ⟨V, hV⟩ : ∃ V, V = w.alloc (.cells #[.int .i64 m, .int .i64 id, .string c, .int .i64 k, .int .i64 r] 40) := ⟨_, rfl⟩
    have hV5 := hV.symm
    rw [← hV] at h0 bA
    have y0 : V.cell? ⟨w.heap.size, 0, none⟩ = some (.int .i64 m) := h0.cell rfl
    have y1 : V.cell? ⟨w.heap.size, 1, none⟩ = some (.int .i64 id) := h0.cell rfl
    have y2 : V.cell? ⟨w.heap.size, 2, none⟩ = some (.string c) := h0.cell rfl
    have y3 : V.cell? ⟨w.heap.size, 3, none⟩ = some (.int .i64 k) := h0.cell rfl
    have y4 : V.cell? ⟨w.heap.size, 4, none⟩ = some (.int .i64 r) := h0.cell rfl
    have hN := names_any i hi V
    rw [hnm, ← hm] at hN
    have H0 := Hid.mk (And.intro h0 bA)
    clear h0 bA hV
    have HA := Hid.mk hAA
    clear hAA hde hd HW8 hm9 hi hm hnm W1 W2 W3
    go_enter Try.func16, Try.ntmps16
    go_wp2_with (go_at_call 43; (try rw [hV5]); refine hN.mono ?_; clear hN; rintro e w1 ⟨rfl, rfl⟩)
    go_ret2
    refine ⟨?_, H0.out.2⟩
    rw [HA.out]
    rfl
set_option maxHeartbeats 4000000 in
set_option maxRecDepth 100000 in
theorem rask_C (i : Nat) (hi : i < 9) (hnm : nmQ i = (false, true, true, false)) (q : Rq) (hop : q.op = (i + 1 : Nat)) (hW : RqW q) (w : World) (A : List UInt8 × Int) (hA : A = askA q)
    (hcl : clQ i q = ⟨q.op, q.id, eB, 0, q.r⟩) (hck : ckQ i q = (decide (q.k < 0), decide (65536 < q.c.size)))
    (hwr : wrQ i q = wrT q.c ++ wrN q.k) :
    Calls Try.prog 16 #[.agg (rqV q)] w fun e w' => e = .returned (.tuple #[.string ⟨A.1.toArray⟩, .int .i64 A.2]) ∧ Below w.heap.size w w' := by
  have hst : stQ i q = !rqE ⟨q.op, q.id, eB, 0, q.r⟩ ⟨(i + 1 : Nat), 0, eB, 0, 0⟩ := by unfold stQ; rw [hcl]
  have hAA : A = if stQ i q then ([], 32) else if ckE (ckQ i q).1 (ckQ i q).2 0 ≠ 0 then ([], ckE (ckQ i q).1 (ckQ i q).2 0) else ([81, UInt8.ofNat (i + 1)] ++ wrQ i q, 0) := by
    rw [hA]; unfold askA
    have e : q.op.toNat = i + 1 := by omega
    rw [if_pos (by omega), e, Nat.add_sub_cancel]
  rw [hst, hck, hwr] at hAA
  clear hA hst hcl hck hwr
  obtain ⟨W1, W2, W3⟩ := hW
  obtain ⟨op, id, c, k, r⟩ := q
  simp only at hop W1 W2 W3 hAA
  obtain ⟨m, hm⟩ : ∃ m, m = i + 1 := ⟨_, rfl⟩
  rw [← hm] at hop hAA
  subst hop
  have g1 : ¬ (m : Int) < 1 := by omega
  have g2 : ¬ (9 : Int) < (m : Int) := by omega
  have hm9 : m ≤ 9 := by omega
  have hd : (UInt8.ofNat m).toNat = m := by rw [UInt8.toNat_ofNat']; omega
  have HW8 := Hid.mk (show IntKind.u8.wrap (m : Int) = (m : Int) by rw [IntKind.wrap_u8]; omega)
  obtain ⟨d, hde⟩ : ∃ d, d = UInt8.ofNat m := ⟨_, rfl⟩
  rw [← hde] at hd hAA
  by_cases hzid : id = 0
  · subst hzid
    by_cases hzr : r = 0
    · subst hzr
      rw [rqE_self, if_neg (by simp)] at hAA
      by_cases hrk : k < 0
      · skip
        have hA3 : A = ([], 13) := by rw [hAA, decide_eq_true hrk]; rfl
        clear hAA
        have hAA := hA3
        clear hA3
        have h0 := HC.new w #[.int .i64 m, .int .i64 0, .string c, .int .i64 k, .int .i64 0] 40
        have bA : Below w.heap.size w (w.alloc (.cells #[.int .i64 m, .int .i64 0, .string c, .int .i64 k, .int .i64 0] 40)) := (Below.refl _ w).alloc (Nat.le_refl _) _
        obtain ⟨V, hV⟩ : ∃ V, V = w.alloc (.cells #[.int .i64 m, .int .i64 0, .string c, .int .i64 k, .int .i64 0] 40) := ⟨_, rfl⟩
        have hV5 := hV.symm
        rw [← hV] at h0 bA
        have y0 : V.cell? ⟨w.heap.size, 0, none⟩ = some (.int .i64 m) := h0.cell rfl
        have y1 : V.cell? ⟨w.heap.size, 1, none⟩ = some (.int .i64 0) := h0.cell rfl
        have y2 : V.cell? ⟨w.heap.size, 2, none⟩ = some (.string c) := h0.cell rfl
        have y3 : V.cell? ⟨w.heap.size, 3, none⟩ = some (.int .i64 k) := h0.cell rfl
        have y4 : V.cell? ⟨w.heap.size, 4, none⟩ = some (.int .i64 0) := h0.cell rfl
        have hN := names_any i hi V
        rw [hnm, ← hm] at hN
        have H0 := Hid.mk (And.intro h0 bA)
        clear h0 bA hV
        have HA := Hid.mk hAA
        clear hAA hde hd HW8 hm9 hi hm hnm W1 W2 W3
        go_enter Try.func16, Try.ntmps16
        go_wp2_with (go_at_call 43; (try rw [hV5]); refine hN.mono ?_; clear hN; rintro e w1 ⟨rfl, rfl⟩)
        go_ret2
        refine ⟨?_, H0.out.2⟩
        rw [HA.out]
        rfl
      · obtain ⟨nn, hnn⟩ : ∃ nn : Nat, k = nn := ⟨k.toNat, by omega⟩
        subst hnn
        by_cases hbig : 65536 < c.size
        · have hbig2 : (65536 : Int) < (c.size : Int) := by omega
          have hA3 : A = ([], 36) := by rw [hAA, decide_eq_true hbig, decide_eq_false (by omega)]; rfl
          clear hAA
          have hAA := hA3
          clear hA3
          have h0 := HC.new w #[.int .i64 m, .int .i64 0, .string c, .int .i64 nn, .int .i64 0] 40
          have bA : Below w.heap.size w (w.alloc (.cells #[.int .i64 m, .int .i64 0, .string c, .int .i64 nn, .int .i64 0] 40)) := (Below.refl _ w).alloc (Nat.le_refl _) _
          obtain ⟨V, hV⟩ : ∃ V, V = w.alloc (.cells #[.int .i64 m, .int .i64 0, .string c, .int .i64 nn, .int .i64 0] 40) := ⟨_, rfl⟩
          have hV5 := hV.symm
          rw [← hV] at h0 bA
          have y0 : V.cell? ⟨w.heap.size, 0, none⟩ = some (.int .i64 m) := h0.cell rfl
          have y1 : V.cell? ⟨w.heap.size, 1, none⟩ = some (.int .i64 0) := h0.cell rfl
          have y2 : V.cell? ⟨w.heap.size, 2, none⟩ = some (.string c) := h0.cell rfl
          have y3 : V.cell? ⟨w.heap.size, 3, none⟩ = some (.int .i64 nn) := h0.cell rfl
          have y4 : V.cell? ⟨w.heap.size, 4, none⟩ = some (.int .i64 0) := h0.cell rfl
          have hN := names_any i hi V
          rw [hnm, ← hm] at hN
          have H0 := Hid.mk (And.intro h0 bA)
          clear h0 bA hV
          have HA := Hid.mk hAA
          clear hAA hde hd HW8 hm9 hi hm hnm W1 W2 W3
          go_enter Try.func16, Try.ntmps16
          go_wp2_with (go_at_call 43; (try rw [hV5]); refine hN.mono ?_; clear hN; rintro e w1 ⟨rfl, rfl⟩)
          go_ret2
          refine ⟨?_, H0.out.2⟩
          rw [HA.out]
          rfl
        · have hbig2 : ¬ (65536 : Int) < (c.size : Int) := by omega
          have h0 := HC.new w #[.int .i64 m, .int .i64 0, .string c, .int .i64 nn, .int .i64 0] 40
          have bA : Below w.heap.size w (w.alloc (.cells #[.int .i64 m, .int .i64 0, .string c, .int .i64 nn, .int .i64 0] 40)) := (Below.refl _ w).alloc (Nat.le_refl _) _
          obtain ⟨V, hV⟩ : ∃ V, V = w.alloc (.cells #[.int .i64 m, .int .i64 0, .string c, .int .i64 nn, .int .i64 0] 40) := ⟨_, rfl⟩
          have hV5 := hV.symm
          rw [← hV] at h0 bA
          have y0 : V.cell? ⟨w.heap.size, 0, none⟩ = some (.int .i64 m) := h0.cell rfl
          have y1 : V.cell? ⟨w.heap.size, 1, none⟩ = some (.int .i64 0) := h0.cell rfl
          have y2 : V.cell? ⟨w.heap.size, 2, none⟩ = some (.string c) := h0.cell rfl
          have y3 : V.cell? ⟨w.heap.size, 3, none⟩ = some (.int .i64 nn) := h0.cell rfl
          have y4 : V.cell? ⟨w.heap.size, 4, none⟩ = some (.int .i64 0) := h0.cell rfl
          have hN := names_any i hi V
          rw [hnm, ← hm] at hN
          have H0 := Hid.mk (And.intro h0 bA)
          clear h0 bA hV
          have hT0 := fun W => rtxt_any c W (by omega)
          have hl0 : (wrT c).length ≤ 65546 := by have := (pvL_len 9 c.size).2; have := nm_size c; simp only [wrT, List.length_append]; omega
          obtain ⟨X0, hX0⟩ : ∃ X : ByteArray, X = ⟨(wrT c).toArray⟩ := ⟨_, rfl⟩
          have hs0 : X0.size ≤ 65546 := by rw [hX0, bsz]; exact hl0
          rw [← hX0] at hT0
          have hT1 := fun W => rnum_any nn W (by omega)
          have hl1 : (pvL 9 nn).length ≤ 65546 := by have := (pvL_len 9 nn).2; omega
          obtain ⟨X1, hX1⟩ : ∃ X : ByteArray, X = ⟨(pvL 9 nn).toArray⟩ := ⟨_, rfl⟩
          have hs1 : X1.size ≤ 65546 := by rw [hX1, bsz]; exact hl1
          rw [← hX1] at hT1
          have h2b := two_bytes V m d hd
          obtain ⟨P2, hP2⟩ : ∃ P2 : ByteArray, P2 = ⟨#[81, d]⟩ := ⟨_, rfl⟩
          have hp2 : P2.size = 2 := by rw [hP2]; rfl
          rw [← hP2] at h2b
          have k1 : HC (V.alloc (.cells #[.int .u8 81, .int .u8 m] 5)) w.heap.size #[.int .i64 m, .int .i64 0, .string c, .int .i64 nn, .int .i64 0] 40 := HC.alloc H0.out.1 _
          have b1 : Below w.heap.size w (V.alloc (.cells #[.int .u8 81, .int .u8 m] 5)) := H0.out.2.alloc H0.out.2.size _
          have l1 := H0.out.1.lt
          have z1 : ¬ 9223372036854775807 < P2.size + X0.size := by omega
          have z2 : ¬ 9223372036854775807 < P2.size + X0.size + X1.size := by omega
          have u0 : (V.alloc (.cells #[.int .u8 81, .int .u8 m] 5)).cell? ⟨w.heap.size, 0, none⟩ = some (.int .i64 m) := k1.cell rfl
          have u1 : (V.alloc (.cells #[.int .u8 81, .int .u8 m] 5)).cell? ⟨w.heap.size, 1, none⟩ = some (.int .i64 0) := k1.cell rfl
          have u2 : (V.alloc (.cells #[.int .u8 81, .int .u8 m] 5)).cell? ⟨w.heap.size, 2, none⟩ = some (.string c) := k1.cell rfl
          have u3 : (V.alloc (.cells #[.int .u8 81, .int .u8 m] 5)).cell? ⟨w.heap.size, 3, none⟩ = some (.int .i64 nn) := k1.cell rfl
          have u4 : (V.alloc (.cells #[.int .u8 81, .int .u8 m] 5)).cell? ⟨w.heap.size, 4, none⟩ = some (.int .i64 0) := k1.cell rfl
          have HE : Hid (P2 ++ X0 ++ X1 = ⟨(([81, d] ++ wrT c) ++ pvL 9 nn).toArray⟩) := by
            show _ = _
            rw [hP2, hX0, hX1]
            rw [app_str' [81, d]]
            rw [app_str]
          have hA3 : A = ([81, d] ++ (wrT c ++ pvL 9 nn), 0) := by rw [hAA, decide_eq_false (by omega : ¬ (nn : Int) < 0), decide_eq_false hbig]; rfl
          clear hAA
          have hAA := hA3
          clear hA3
          have HA := Hid.mk hAA
          have hw8 := HW8.out
          clear hAA hde hd HW8 hm9 hi hm hnm W1 W2 W3 hp2 hP2 hX0 hs0 hl0 hX1 hs1 hl1
          go_enter Try.func16, Try.ntmps16
          go_wp2_with (first | (go_at_call 43; (try rw [hV5]); refine hN.mono ?_; clear hN; rintro e w1 ⟨rfl, rfl⟩) | (go_at_call 22; refine (hT0 _).mono ?_; clear hT0; rintro e w5 ⟨rfl, b5⟩; have k5 := k1.below b5; have uw50 : w5.cell? ⟨w.heap.size, 0, none⟩ = some (.int .i64 m) := k5.cell rfl; have uw51 : w5.cell? ⟨w.heap.size, 1, none⟩ = some (.int .i64 0) := k5.cell rfl; have uw52 : w5.cell? ⟨w.heap.size, 2, none⟩ = some (.string c) := k5.cell rfl; have uw53 : w5.cell? ⟨w.heap.size, 3, none⟩ = some (.int .i64 nn) := k5.cell rfl; have uw54 : w5.cell? ⟨w.heap.size, 4, none⟩ = some (.int .i64 0) := k5.cell rfl) | (go_at_call 20; refine (hT1 _).mono ?_; clear hT1; rintro e w6 ⟨rfl, b6⟩; have k6 := k5.below b6; have uw60 : w6.cell? ⟨w.heap.size, 0, none⟩ = some (.int .i64 m) := k6.cell rfl; have uw61 : w6.cell? ⟨w.heap.size, 1, none⟩ = some (.int .i64 0) := k6.cell rfl; have uw62 : w6.cell? ⟨w.heap.size, 2, none⟩ = some (.string c) := k6.cell rfl; have uw63 : w6.cell? ⟨w.heap.size, 3, none⟩ = some (.int .i64 nn) := k6.cell rfl; have uw64 : w6.cell? ⟨w.heap.size, 4, none⟩ = some (.int .i64 0) := k6.cell rfl))
          go_ret2
          refine ⟨?_, chain (chain b1 b5 (Nat.le_refl _)) b6 (Nat.le_refl _)⟩
          rw [HA.out]
          have he := HE.out
          show Ending.returned (.tuple #[.string (P2 ++ X0 ++ X1), .int .i64 0]) = _
          rw [he]
          rw [List.append_assoc]
    · skip
      have hA3 : A = ([], 32) := by rw [hAA, rqE_ne (fun e => hzr (congrArg Rq.r e))]; rfl
      clear hAA
      have hAA := hA3
      clear hA3
      have h0 := HC.new w #[.int .i64 m, .int .i64 0, .string c, .int .i64 k, .int .i64 r] 40
      have bA : Below w.heap.size w (w.alloc (.cells #[.int .i64 m, .int .i64 0, .string c, .int .i64 k, .int .i64 r] 40)) := (Below.refl _ w).alloc (Nat.le_refl _) _
      obtain ⟨V, hV⟩ : ∃ V, V = w.alloc (.cells #[.int .i64 m, .int .i64 0, .string c, .int .i64 k, .int .i64 r] 40) := ⟨_, rfl⟩
      have hV5 := hV.symm
      rw [← hV] at h0 bA
      have y0 : V.cell? ⟨w.heap.size, 0, none⟩ = some (.int .i64 m) := h0.cell rfl
      have y1 : V.cell? ⟨w.heap.size, 1, none⟩ = some (.int .i64 0) := h0.cell rfl
      have y2 : V.cell? ⟨w.heap.size, 2, none⟩ = some (.string c) := h0.cell rfl
      have y3 : V.cell? ⟨w.heap.size, 3, none⟩ = some (.int .i64 k) := h0.cell rfl
      have y4 : V.cell? ⟨w.heap.size, 4, none⟩ = some (.int .i64 r) := h0.cell rfl
      have hN := names_any i hi V
      rw [hnm, ← hm] at hN
      have H0 := Hid.mk (And.intro h0 bA)
      clear h0 bA hV
      have HA := Hid.mk hAA
      clear hAA hde hd HW8 hm9 hi hm hnm W1 W2 W3
      go_enter Try.func16, Try.ntmps16
      go_wp2_with (go_at_call 43; (try rw [hV5]); refine hN.mono ?_; clear hN; rintro e w1 ⟨rfl, rfl⟩)
      go_ret2
      refine ⟨?_, H0.out.2⟩
      rw [HA.out]
      rfl
  · skip
    have hA3 : A = ([], 32) := by rw [hAA, rqE_ne (fun e => hzid (congrArg Rq.id e))]; rfl
    clear hAA
    have hAA := hA3
    clear hA3
    have h0 := HC.new w #[.int .i64 m, .int .i64 id, .string c, .int .i64 k, .int .i64 r] 40
    have bA : Below w.heap.size w (w.alloc (.cells #[.int .i64 m, .int .i64 id, .string c, .int .i64 k, .int .i64 r] 40)) := (Below.refl _ w).alloc (Nat.le_refl _) _
    obtain ⟨V, hV⟩ : ∃ V, V = w.alloc (.cells #[.int .i64 m, .int .i64 id, .string c, .int .i64 k, .int .i64 r] 40) := ⟨_, rfl⟩
    have hV5 := hV.symm
    rw [← hV] at h0 bA
    have y0 : V.cell? ⟨w.heap.size, 0, none⟩ = some (.int .i64 m) := h0.cell rfl
    have y1 : V.cell? ⟨w.heap.size, 1, none⟩ = some (.int .i64 id) := h0.cell rfl
    have y2 : V.cell? ⟨w.heap.size, 2, none⟩ = some (.string c) := h0.cell rfl
    have y3 : V.cell? ⟨w.heap.size, 3, none⟩ = some (.int .i64 k) := h0.cell rfl
    have y4 : V.cell? ⟨w.heap.size, 4, none⟩ = some (.int .i64 r) := h0.cell rfl
    have hN := names_any i hi V
    rw [hnm, ← hm] at hN
    have H0 := Hid.mk (And.intro h0 bA)
    clear h0 bA hV
    have HA := Hid.mk hAA
    clear hAA hde hd HW8 hm9 hi hm hnm W1 W2 W3
    go_enter Try.func16, Try.ntmps16
    go_wp2_with (go_at_call 43; (try rw [hV5]); refine hN.mono ?_; clear hN; rintro e w1 ⟨rfl, rfl⟩)
    go_ret2
    refine ⟨?_, H0.out.2⟩
    rw [HA.out]
    rfl
set_option maxHeartbeats 4000000 in
set_option maxRecDepth 100000 in
theorem rask_D (i : Nat) (hi : i < 9) (hnm : nmQ i = (false, true, false, true)) (q : Rq) (hop : q.op = (i + 1 : Nat)) (hW : RqW q) (w : World) (A : List UInt8 × Int) (hA : A = askA q)
    (hcl : clQ i q = ⟨q.op, q.id, eB, q.k, 0⟩) (hck : ckQ i q = (decide (q.r < 0), decide (65536 < q.c.size)))
    (hwr : wrQ i q = wrT q.c ++ wrN q.r) :
    Calls Try.prog 16 #[.agg (rqV q)] w fun e w' => e = .returned (.tuple #[.string ⟨A.1.toArray⟩, .int .i64 A.2]) ∧ Below w.heap.size w w' := by
  have hst : stQ i q = !rqE ⟨q.op, q.id, eB, q.k, 0⟩ ⟨(i + 1 : Nat), 0, eB, 0, 0⟩ := by unfold stQ; rw [hcl]
  have hAA : A = if stQ i q then ([], 32) else if ckE (ckQ i q).1 (ckQ i q).2 0 ≠ 0 then ([], ckE (ckQ i q).1 (ckQ i q).2 0) else ([81, UInt8.ofNat (i + 1)] ++ wrQ i q, 0) := by
    rw [hA]; unfold askA
    have e : q.op.toNat = i + 1 := by omega
    rw [if_pos (by omega), e, Nat.add_sub_cancel]
  rw [hst, hck, hwr] at hAA
  clear hA hst hcl hck hwr
  obtain ⟨W1, W2, W3⟩ := hW
  obtain ⟨op, id, c, k, r⟩ := q
  simp only at hop W1 W2 W3 hAA
  obtain ⟨m, hm⟩ : ∃ m, m = i + 1 := ⟨_, rfl⟩
  rw [← hm] at hop hAA
  subst hop
  have g1 : ¬ (m : Int) < 1 := by omega
  have g2 : ¬ (9 : Int) < (m : Int) := by omega
  have hm9 : m ≤ 9 := by omega
  have hd : (UInt8.ofNat m).toNat = m := by rw [UInt8.toNat_ofNat']; omega
  have HW8 := Hid.mk (show IntKind.u8.wrap (m : Int) = (m : Int) by rw [IntKind.wrap_u8]; omega)
  obtain ⟨d, hde⟩ : ∃ d, d = UInt8.ofNat m := ⟨_, rfl⟩
  rw [← hde] at hd hAA
  by_cases hzid : id = 0
  · subst hzid
    by_cases hzk : k = 0
    · subst hzk
      rw [rqE_self, if_neg (by simp)] at hAA
      by_cases hrr : r < 0
      · skip
        have hA3 : A = ([], 13) := by rw [hAA, decide_eq_true hrr]; rfl
        clear hAA
        have hAA := hA3
        clear hA3
        have h0 := HC.new w #[.int .i64 m, .int .i64 0, .string c, .int .i64 0, .int .i64 r] 40
        have bA : Below w.heap.size w (w.alloc (.cells #[.int .i64 m, .int .i64 0, .string c, .int .i64 0, .int .i64 r] 40)) := (Below.refl _ w).alloc (Nat.le_refl _) _
        obtain ⟨V, hV⟩ : ∃ V, V = w.alloc (.cells #[.int .i64 m, .int .i64 0, .string c, .int .i64 0, .int .i64 r] 40) := ⟨_, rfl⟩
        have hV5 := hV.symm
        rw [← hV] at h0 bA
        have y0 : V.cell? ⟨w.heap.size, 0, none⟩ = some (.int .i64 m) := h0.cell rfl
        have y1 : V.cell? ⟨w.heap.size, 1, none⟩ = some (.int .i64 0) := h0.cell rfl
        have y2 : V.cell? ⟨w.heap.size, 2, none⟩ = some (.string c) := h0.cell rfl
        have y3 : V.cell? ⟨w.heap.size, 3, none⟩ = some (.int .i64 0) := h0.cell rfl
        have y4 : V.cell? ⟨w.heap.size, 4, none⟩ = some (.int .i64 r) := h0.cell rfl
        have hN := names_any i hi V
        rw [hnm, ← hm] at hN
        have H0 := Hid.mk (And.intro h0 bA)
        clear h0 bA hV
        have HA := Hid.mk hAA
        clear hAA hde hd HW8 hm9 hi hm hnm W1 W2 W3
        go_enter Try.func16, Try.ntmps16
        go_wp2_with (go_at_call 43; (try rw [hV5]); refine hN.mono ?_; clear hN; rintro e w1 ⟨rfl, rfl⟩)
        go_ret2
        refine ⟨?_, H0.out.2⟩
        rw [HA.out]
        rfl
      · obtain ⟨nn, hnn⟩ : ∃ nn : Nat, r = nn := ⟨r.toNat, by omega⟩
        subst hnn
        by_cases hbig : 65536 < c.size
        · have hbig2 : (65536 : Int) < (c.size : Int) := by omega
          have hA3 : A = ([], 36) := by rw [hAA, decide_eq_true hbig, decide_eq_false (by omega)]; rfl
          clear hAA
          have hAA := hA3
          clear hA3
          have h0 := HC.new w #[.int .i64 m, .int .i64 0, .string c, .int .i64 0, .int .i64 nn] 40
          have bA : Below w.heap.size w (w.alloc (.cells #[.int .i64 m, .int .i64 0, .string c, .int .i64 0, .int .i64 nn] 40)) := (Below.refl _ w).alloc (Nat.le_refl _) _
          obtain ⟨V, hV⟩ : ∃ V, V = w.alloc (.cells #[.int .i64 m, .int .i64 0, .string c, .int .i64 0, .int .i64 nn] 40) := ⟨_, rfl⟩
          have hV5 := hV.symm
          rw [← hV] at h0 bA
          have y0 : V.cell? ⟨w.heap.size, 0, none⟩ = some (.int .i64 m) := h0.cell rfl
          have y1 : V.cell? ⟨w.heap.size, 1, none⟩ = some (.int .i64 0) := h0.cell rfl
          have y2 : V.cell? ⟨w.heap.size, 2, none⟩ = some (.string c) := h0.cell rfl
          have y3 : V.cell? ⟨w.heap.size, 3, none⟩ = some (.int .i64 0) := h0.cell rfl
          have y4 : V.cell? ⟨w.heap.size, 4, none⟩ = some (.int .i64 nn) := h0.cell rfl
          have hN := names_any i hi V
          rw [hnm, ← hm] at hN
          have H0 := Hid.mk (And.intro h0 bA)
          clear h0 bA hV
          have HA := Hid.mk hAA
          clear hAA hde hd HW8 hm9 hi hm hnm W1 W2 W3
          go_enter Try.func16, Try.ntmps16
          go_wp2_with (go_at_call 43; (try rw [hV5]); refine hN.mono ?_; clear hN; rintro e w1 ⟨rfl, rfl⟩)
          go_ret2
          refine ⟨?_, H0.out.2⟩
          rw [HA.out]
          rfl
        · have hbig2 : ¬ (65536 : Int) < (c.size : Int) := by omega
          have h0 := HC.new w #[.int .i64 m, .int .i64 0, .string c, .int .i64 0, .int .i64 nn] 40
          have bA : Below w.heap.size w (w.alloc (.cells #[.int .i64 m, .int .i64 0, .string c, .int .i64 0, .int .i64 nn] 40)) := (Below.refl _ w).alloc (Nat.le_refl _) _
          obtain ⟨V, hV⟩ : ∃ V, V = w.alloc (.cells #[.int .i64 m, .int .i64 0, .string c, .int .i64 0, .int .i64 nn] 40) := ⟨_, rfl⟩
          have hV5 := hV.symm
          rw [← hV] at h0 bA
          have y0 : V.cell? ⟨w.heap.size, 0, none⟩ = some (.int .i64 m) := h0.cell rfl
          have y1 : V.cell? ⟨w.heap.size, 1, none⟩ = some (.int .i64 0) := h0.cell rfl
          have y2 : V.cell? ⟨w.heap.size, 2, none⟩ = some (.string c) := h0.cell rfl
          have y3 : V.cell? ⟨w.heap.size, 3, none⟩ = some (.int .i64 0) := h0.cell rfl
          have y4 : V.cell? ⟨w.heap.size, 4, none⟩ = some (.int .i64 nn) := h0.cell rfl
          have hN := names_any i hi V
          rw [hnm, ← hm] at hN
          have H0 := Hid.mk (And.intro h0 bA)
          clear h0 bA hV
          have hT0 := fun W => rtxt_any c W (by omega)
          have hl0 : (wrT c).length ≤ 65546 := by have := (pvL_len 9 c.size).2; have := nm_size c; simp only [wrT, List.length_append]; omega
          obtain ⟨X0, hX0⟩ : ∃ X : ByteArray, X = ⟨(wrT c).toArray⟩ := ⟨_, rfl⟩
          have hs0 : X0.size ≤ 65546 := by rw [hX0, bsz]; exact hl0
          rw [← hX0] at hT0
          have hT1 := fun W => rnum_any nn W (by omega)
          have hl1 : (pvL 9 nn).length ≤ 65546 := by have := (pvL_len 9 nn).2; omega
          obtain ⟨X1, hX1⟩ : ∃ X : ByteArray, X = ⟨(pvL 9 nn).toArray⟩ := ⟨_, rfl⟩
          have hs1 : X1.size ≤ 65546 := by rw [hX1, bsz]; exact hl1
          rw [← hX1] at hT1
          have h2b := two_bytes V m d hd
          obtain ⟨P2, hP2⟩ : ∃ P2 : ByteArray, P2 = ⟨#[81, d]⟩ := ⟨_, rfl⟩
          have hp2 : P2.size = 2 := by rw [hP2]; rfl
          rw [← hP2] at h2b
          have k1 : HC (V.alloc (.cells #[.int .u8 81, .int .u8 m] 5)) w.heap.size #[.int .i64 m, .int .i64 0, .string c, .int .i64 0, .int .i64 nn] 40 := HC.alloc H0.out.1 _
          have b1 : Below w.heap.size w (V.alloc (.cells #[.int .u8 81, .int .u8 m] 5)) := H0.out.2.alloc H0.out.2.size _
          have l1 := H0.out.1.lt
          have z1 : ¬ 9223372036854775807 < P2.size + X0.size := by omega
          have z2 : ¬ 9223372036854775807 < P2.size + X0.size + X1.size := by omega
          have u0 : (V.alloc (.cells #[.int .u8 81, .int .u8 m] 5)).cell? ⟨w.heap.size, 0, none⟩ = some (.int .i64 m) := k1.cell rfl
          have u1 : (V.alloc (.cells #[.int .u8 81, .int .u8 m] 5)).cell? ⟨w.heap.size, 1, none⟩ = some (.int .i64 0) := k1.cell rfl
          have u2 : (V.alloc (.cells #[.int .u8 81, .int .u8 m] 5)).cell? ⟨w.heap.size, 2, none⟩ = some (.string c) := k1.cell rfl
          have u3 : (V.alloc (.cells #[.int .u8 81, .int .u8 m] 5)).cell? ⟨w.heap.size, 3, none⟩ = some (.int .i64 0) := k1.cell rfl
          have u4 : (V.alloc (.cells #[.int .u8 81, .int .u8 m] 5)).cell? ⟨w.heap.size, 4, none⟩ = some (.int .i64 nn) := k1.cell rfl
          have HE : Hid (P2 ++ X0 ++ X1 = ⟨(([81, d] ++ wrT c) ++ pvL 9 nn).toArray⟩) := by
            show _ = _
            rw [hP2, hX0, hX1]
            rw [app_str' [81, d]]
            rw [app_str]
          have hA3 : A = ([81, d] ++ (wrT c ++ pvL 9 nn), 0) := by rw [hAA, decide_eq_false (by omega : ¬ (nn : Int) < 0), decide_eq_false hbig]; rfl
          clear hAA
          have hAA := hA3
          clear hA3
          have HA := Hid.mk hAA
          have hw8 := HW8.out
          clear hAA hde hd HW8 hm9 hi hm hnm W1 W2 W3 hp2 hP2 hX0 hs0 hl0 hX1 hs1 hl1
          go_enter Try.func16, Try.ntmps16
          go_wp2_with (first | (go_at_call 43; (try rw [hV5]); refine hN.mono ?_; clear hN; rintro e w1 ⟨rfl, rfl⟩) | (go_at_call 22; refine (hT0 _).mono ?_; clear hT0; rintro e w5 ⟨rfl, b5⟩; have k5 := k1.below b5; have uw50 : w5.cell? ⟨w.heap.size, 0, none⟩ = some (.int .i64 m) := k5.cell rfl; have uw51 : w5.cell? ⟨w.heap.size, 1, none⟩ = some (.int .i64 0) := k5.cell rfl; have uw52 : w5.cell? ⟨w.heap.size, 2, none⟩ = some (.string c) := k5.cell rfl; have uw53 : w5.cell? ⟨w.heap.size, 3, none⟩ = some (.int .i64 0) := k5.cell rfl; have uw54 : w5.cell? ⟨w.heap.size, 4, none⟩ = some (.int .i64 nn) := k5.cell rfl) | (go_at_call 20; refine (hT1 _).mono ?_; clear hT1; rintro e w6 ⟨rfl, b6⟩; have k6 := k5.below b6; have uw60 : w6.cell? ⟨w.heap.size, 0, none⟩ = some (.int .i64 m) := k6.cell rfl; have uw61 : w6.cell? ⟨w.heap.size, 1, none⟩ = some (.int .i64 0) := k6.cell rfl; have uw62 : w6.cell? ⟨w.heap.size, 2, none⟩ = some (.string c) := k6.cell rfl; have uw63 : w6.cell? ⟨w.heap.size, 3, none⟩ = some (.int .i64 0) := k6.cell rfl; have uw64 : w6.cell? ⟨w.heap.size, 4, none⟩ = some (.int .i64 nn) := k6.cell rfl))
          go_ret2
          refine ⟨?_, chain (chain b1 b5 (Nat.le_refl _)) b6 (Nat.le_refl _)⟩
          rw [HA.out]
          have he := HE.out
          show Ending.returned (.tuple #[.string (P2 ++ X0 ++ X1), .int .i64 0]) = _
          rw [he]
          rw [List.append_assoc]
    · skip
      have hA3 : A = ([], 32) := by rw [hAA, rqE_ne (fun e => hzk (congrArg Rq.k e))]; rfl
      clear hAA
      have hAA := hA3
      clear hA3
      have h0 := HC.new w #[.int .i64 m, .int .i64 0, .string c, .int .i64 k, .int .i64 r] 40
      have bA : Below w.heap.size w (w.alloc (.cells #[.int .i64 m, .int .i64 0, .string c, .int .i64 k, .int .i64 r] 40)) := (Below.refl _ w).alloc (Nat.le_refl _) _
      obtain ⟨V, hV⟩ : ∃ V, V = w.alloc (.cells #[.int .i64 m, .int .i64 0, .string c, .int .i64 k, .int .i64 r] 40) := ⟨_, rfl⟩
      have hV5 := hV.symm
      rw [← hV] at h0 bA
      have y0 : V.cell? ⟨w.heap.size, 0, none⟩ = some (.int .i64 m) := h0.cell rfl
      have y1 : V.cell? ⟨w.heap.size, 1, none⟩ = some (.int .i64 0) := h0.cell rfl
      have y2 : V.cell? ⟨w.heap.size, 2, none⟩ = some (.string c) := h0.cell rfl
      have y3 : V.cell? ⟨w.heap.size, 3, none⟩ = some (.int .i64 k) := h0.cell rfl
      have y4 : V.cell? ⟨w.heap.size, 4, none⟩ = some (.int .i64 r) := h0.cell rfl
      have hN := names_any i hi V
      rw [hnm, ← hm] at hN
      have H0 := Hid.mk (And.intro h0 bA)
      clear h0 bA hV
      have HA := Hid.mk hAA
      clear hAA hde hd HW8 hm9 hi hm hnm W1 W2 W3
      go_enter Try.func16, Try.ntmps16
      go_wp2_with (go_at_call 43; (try rw [hV5]); refine hN.mono ?_; clear hN; rintro e w1 ⟨rfl, rfl⟩)
      go_ret2
      refine ⟨?_, H0.out.2⟩
      rw [HA.out]
      rfl
  · skip
    have hA3 : A = ([], 32) := by rw [hAA, rqE_ne (fun e => hzid (congrArg Rq.id e))]; rfl
    clear hAA
    have hAA := hA3
    clear hA3
    have h0 := HC.new w #[.int .i64 m, .int .i64 id, .string c, .int .i64 k, .int .i64 r] 40
    have bA : Below w.heap.size w (w.alloc (.cells #[.int .i64 m, .int .i64 id, .string c, .int .i64 k, .int .i64 r] 40)) := (Below.refl _ w).alloc (Nat.le_refl _) _
    obtain ⟨V, hV⟩ : ∃ V, V = w.alloc (.cells #[.int .i64 m, .int .i64 id, .string c, .int .i64 k, .int .i64 r] 40) := ⟨_, rfl⟩
    have hV5 := hV.symm
    rw [← hV] at h0 bA
    have y0 : V.cell? ⟨w.heap.size, 0, none⟩ = some (.int .i64 m) := h0.cell rfl
    have y1 : V.cell? ⟨w.heap.size, 1, none⟩ = some (.int .i64 id) := h0.cell rfl
    have y2 : V.cell? ⟨w.heap.size, 2, none⟩ = some (.string c) := h0.cell rfl
    have y3 : V.cell? ⟨w.heap.size, 3, none⟩ = some (.int .i64 k) := h0.cell rfl
    have y4 : V.cell? ⟨w.heap.size, 4, none⟩ = some (.int .i64 r) := h0.cell rfl
    have hN := names_any i hi V
    rw [hnm, ← hm] at hN
    have H0 := Hid.mk (And.intro h0 bA)
    clear h0 bA hV
    have HA := Hid.mk hAA
    clear hAA hde hd HW8 hm9 hi hm hnm W1 W2 W3
    go_enter Try.func16, Try.ntmps16
    go_wp2_with (go_at_call 43; (try rw [hV5]); refine hN.mono ?_; clear hN; rintro e w1 ⟨rfl, rfl⟩)
    go_ret2
    refine ⟨?_, H0.out.2⟩
    rw [HA.out]
    rfl
set_option maxHeartbeats 4000000 in
set_option maxRecDepth 100000 in
theorem rask_E (i : Nat) (hi : i < 9) (hnm : nmQ i = (false, false, false, false)) (q : Rq) (hop : q.op = (i + 1 : Nat)) (hW : RqW q) (w : World) (A : List UInt8 × Int) (hA : A = askA q)
    (hcl : clQ i q = ⟨q.op, q.id, q.c, q.k, q.r⟩) (hck : ckQ i q = (false, false))
    (hwr : wrQ i q = []) :
    Calls Try.prog 16 #[.agg (rqV q)] w fun e w' => e = .returned (.tuple #[.string ⟨A.1.toArray⟩, .int .i64 A.2]) ∧ Below w.heap.size w w' := by
  have hst : stQ i q = !rqE ⟨q.op, q.id, q.c, q.k, q.r⟩ ⟨(i + 1 : Nat), 0, eB, 0, 0⟩ := by unfold stQ; rw [hcl]
  have hAA : A = if stQ i q then ([], 32) else if ckE (ckQ i q).1 (ckQ i q).2 0 ≠ 0 then ([], ckE (ckQ i q).1 (ckQ i q).2 0) else ([81, UInt8.ofNat (i + 1)] ++ wrQ i q, 0) := by
    rw [hA]; unfold askA
    have e : q.op.toNat = i + 1 := by omega
    rw [if_pos (by omega), e, Nat.add_sub_cancel]
  rw [hst, hck, hwr] at hAA
  clear hA hst hcl hck hwr
  obtain ⟨W1, W2, W3⟩ := hW
  obtain ⟨op, id, c, k, r⟩ := q
  simp only at hop W1 W2 W3 hAA
  obtain ⟨m, hm⟩ : ∃ m, m = i + 1 := ⟨_, rfl⟩
  rw [← hm] at hop hAA
  subst hop
  have g1 : ¬ (m : Int) < 1 := by omega
  have g2 : ¬ (9 : Int) < (m : Int) := by omega
  have hm9 : m ≤ 9 := by omega
  have hd : (UInt8.ofNat m).toNat = m := by rw [UInt8.toNat_ofNat']; omega
  have HW8 := Hid.mk (show IntKind.u8.wrap (m : Int) = (m : Int) by rw [IntKind.wrap_u8]; omega)
  obtain ⟨d, hde⟩ : ∃ d, d = UInt8.ofNat m := ⟨_, rfl⟩
  rw [← hde] at hd hAA
  by_cases hzid : id = 0
  · subst hzid
    by_cases hzc : c = eB
    · subst hzc
      by_cases hzk : k = 0
      · subst hzk
        by_cases hzr : r = 0
        · subst hzr
          rw [rqE_self, if_neg (by simp)] at hAA
          have h0 := HC.new w #[.int .i64 m, .int .i64 0, .string ⟨#[]⟩, .int .i64 0, .int .i64 0] 40
          have bA : Below w.heap.size w (w.alloc (.cells #[.int .i64 m, .int .i64 0, .string ⟨#[]⟩, .int .i64 0, .int .i64 0] 40)) := (Below.refl _ w).alloc (Nat.le_refl _) _
          obtain ⟨V, hV⟩ : ∃ V, V = w.alloc (.cells #[.int .i64 m, .int .i64 0, .string ⟨#[]⟩, .int .i64 0, .int .i64 0] 40) := ⟨_, rfl⟩
          have hV5 := hV.symm
          rw [← hV] at h0 bA
          have y0 : V.cell? ⟨w.heap.size, 0, none⟩ = some (.int .i64 m) := h0.cell rfl
          have y1 : V.cell? ⟨w.heap.size, 1, none⟩ = some (.int .i64 0) := h0.cell rfl
          have y2 : V.cell? ⟨w.heap.size, 2, none⟩ = some (.string ⟨#[]⟩) := h0.cell rfl
          have y3 : V.cell? ⟨w.heap.size, 3, none⟩ = some (.int .i64 0) := h0.cell rfl
          have y4 : V.cell? ⟨w.heap.size, 4, none⟩ = some (.int .i64 0) := h0.cell rfl
          have hN := names_any i hi V
          rw [hnm, ← hm] at hN
          have H0 := Hid.mk (And.intro h0 bA)
          clear h0 bA hV
          have h2b := two_bytes V m d hd
          obtain ⟨P2, hP2⟩ : ∃ P2 : ByteArray, P2 = ⟨#[81, d]⟩ := ⟨_, rfl⟩
          have hp2 : P2.size = 2 := by rw [hP2]; rfl
          rw [← hP2] at h2b
          have k1 : HC (V.alloc (.cells #[.int .u8 81, .int .u8 m] 5)) w.heap.size #[.int .i64 m, .int .i64 0, .string ⟨#[]⟩, .int .i64 0, .int .i64 0] 40 := HC.alloc H0.out.1 _
          have b1 : Below w.heap.size w (V.alloc (.cells #[.int .u8 81, .int .u8 m] 5)) := H0.out.2.alloc H0.out.2.size _
          have l1 := H0.out.1.lt
          have u0 : (V.alloc (.cells #[.int .u8 81, .int .u8 m] 5)).cell? ⟨w.heap.size, 0, none⟩ = some (.int .i64 m) := k1.cell rfl
          have u1 : (V.alloc (.cells #[.int .u8 81, .int .u8 m] 5)).cell? ⟨w.heap.size, 1, none⟩ = some (.int .i64 0) := k1.cell rfl
          have u2 : (V.alloc (.cells #[.int .u8 81, .int .u8 m] 5)).cell? ⟨w.heap.size, 2, none⟩ = some (.string ⟨#[]⟩) := k1.cell rfl
          have u3 : (V.alloc (.cells #[.int .u8 81, .int .u8 m] 5)).cell? ⟨w.heap.size, 3, none⟩ = some (.int .i64 0) := k1.cell rfl
          have u4 : (V.alloc (.cells #[.int .u8 81, .int .u8 m] 5)).cell? ⟨w.heap.size, 4, none⟩ = some (.int .i64 0) := k1.cell rfl
          have HE : Hid (P2 = ⟨[81, d].toArray⟩) := by
            show _ = _
            rw [hP2]
          have hA3 : A = ([81, d], 0) := by rw [hAA]; rfl
          clear hAA
          have hAA := hA3
          clear hA3
          have HA := Hid.mk hAA
          have hw8 := HW8.out
          clear hAA hde hd HW8 hm9 hi hm hnm W1 W2 W3 hp2 hP2
          go_enter Try.func16, Try.ntmps16
          go_wp2_with (first | (go_at_call 43; (try rw [hV5]); refine hN.mono ?_; clear hN; rintro e w1 ⟨rfl, rfl⟩))
          go_ret2
          refine ⟨?_, b1⟩
          rw [HA.out]
          have he := HE.out
          show Ending.returned (.tuple #[.string (P2), .int .i64 0]) = _
          rw [he]
        · skip
          have hA3 : A = ([], 32) := by rw [hAA, rqE_ne (fun e => hzr (congrArg Rq.r e))]; rfl
          clear hAA
          have hAA := hA3
          clear hA3
          have h0 := HC.new w #[.int .i64 m, .int .i64 0, .string ⟨#[]⟩, .int .i64 0, .int .i64 r] 40
          have bA : Below w.heap.size w (w.alloc (.cells #[.int .i64 m, .int .i64 0, .string ⟨#[]⟩, .int .i64 0, .int .i64 r] 40)) := (Below.refl _ w).alloc (Nat.le_refl _) _
          obtain ⟨V, hV⟩ : ∃ V, V = w.alloc (.cells #[.int .i64 m, .int .i64 0, .string ⟨#[]⟩, .int .i64 0, .int .i64 r] 40) := ⟨_, rfl⟩
          have hV5 := hV.symm
          rw [← hV] at h0 bA
          have y0 : V.cell? ⟨w.heap.size, 0, none⟩ = some (.int .i64 m) := h0.cell rfl
          have y1 : V.cell? ⟨w.heap.size, 1, none⟩ = some (.int .i64 0) := h0.cell rfl
          have y2 : V.cell? ⟨w.heap.size, 2, none⟩ = some (.string ⟨#[]⟩) := h0.cell rfl
          have y3 : V.cell? ⟨w.heap.size, 3, none⟩ = some (.int .i64 0) := h0.cell rfl
          have y4 : V.cell? ⟨w.heap.size, 4, none⟩ = some (.int .i64 r) := h0.cell rfl
          have hN := names_any i hi V
          rw [hnm, ← hm] at hN
          have H0 := Hid.mk (And.intro h0 bA)
          clear h0 bA hV
          have HA := Hid.mk hAA
          clear hAA hde hd HW8 hm9 hi hm hnm W1 W2 W3
          go_enter Try.func16, Try.ntmps16
          go_wp2_with (go_at_call 43; (try rw [hV5]); refine hN.mono ?_; clear hN; rintro e w1 ⟨rfl, rfl⟩)
          go_ret2
          refine ⟨?_, H0.out.2⟩
          rw [HA.out]
          rfl
      · skip
        have hA3 : A = ([], 32) := by rw [hAA, rqE_ne (fun e => hzk (congrArg Rq.k e))]; rfl
        clear hAA
        have hAA := hA3
        clear hA3
        have h0 := HC.new w #[.int .i64 m, .int .i64 0, .string ⟨#[]⟩, .int .i64 k, .int .i64 r] 40
        have bA : Below w.heap.size w (w.alloc (.cells #[.int .i64 m, .int .i64 0, .string ⟨#[]⟩, .int .i64 k, .int .i64 r] 40)) := (Below.refl _ w).alloc (Nat.le_refl _) _
        obtain ⟨V, hV⟩ : ∃ V, V = w.alloc (.cells #[.int .i64 m, .int .i64 0, .string ⟨#[]⟩, .int .i64 k, .int .i64 r] 40) := ⟨_, rfl⟩
        have hV5 := hV.symm
        rw [← hV] at h0 bA
        have y0 : V.cell? ⟨w.heap.size, 0, none⟩ = some (.int .i64 m) := h0.cell rfl
        have y1 : V.cell? ⟨w.heap.size, 1, none⟩ = some (.int .i64 0) := h0.cell rfl
        have y2 : V.cell? ⟨w.heap.size, 2, none⟩ = some (.string ⟨#[]⟩) := h0.cell rfl
        have y3 : V.cell? ⟨w.heap.size, 3, none⟩ = some (.int .i64 k) := h0.cell rfl
        have y4 : V.cell? ⟨w.heap.size, 4, none⟩ = some (.int .i64 r) := h0.cell rfl
        have hN := names_any i hi V
        rw [hnm, ← hm] at hN
        have H0 := Hid.mk (And.intro h0 bA)
        clear h0 bA hV
        have HA := Hid.mk hAA
        clear hAA hde hd HW8 hm9 hi hm hnm W1 W2 W3
        go_enter Try.func16, Try.ntmps16
        go_wp2_with (go_at_call 43; (try rw [hV5]); refine hN.mono ?_; clear hN; rintro e w1 ⟨rfl, rfl⟩)
        go_ret2
        refine ⟨?_, H0.out.2⟩
        rw [HA.out]
        rfl
    · have hc2 : ¬ c.toList = [] := fun h => by
        rw [ByteArray.toList_eq] at h
        exact hzc (ByteArray.ext (Array.toList_inj.1 h))
      have hA3 : A = ([], 32) := by rw [hAA, rqE_ne (fun e => hzc (congrArg Rq.c e))]; rfl
      clear hAA
      have hAA := hA3
      clear hA3
      have h0 := HC.new w #[.int .i64 m, .int .i64 0, .string c, .int .i64 k, .int .i64 r] 40
      have bA : Below w.heap.size w (w.alloc (.cells #[.int .i64 m, .int .i64 0, .string c, .int .i64 k, .int .i64 r] 40)) := (Below.refl _ w).alloc (Nat.le_refl _) _
      obtain ⟨V, hV⟩ : ∃ V, V = w.alloc (.cells #[.int .i64 m, .int .i64 0, .string c, .int .i64 k, .int .i64 r] 40) := ⟨_, rfl⟩
      have hV5 := hV.symm
      rw [← hV] at h0 bA
      have y0 : V.cell? ⟨w.heap.size, 0, none⟩ = some (.int .i64 m) := h0.cell rfl
      have y1 : V.cell? ⟨w.heap.size, 1, none⟩ = some (.int .i64 0) := h0.cell rfl
      have y2 : V.cell? ⟨w.heap.size, 2, none⟩ = some (.string c) := h0.cell rfl
      have y3 : V.cell? ⟨w.heap.size, 3, none⟩ = some (.int .i64 k) := h0.cell rfl
      have y4 : V.cell? ⟨w.heap.size, 4, none⟩ = some (.int .i64 r) := h0.cell rfl
      have hN := names_any i hi V
      rw [hnm, ← hm] at hN
      have H0 := Hid.mk (And.intro h0 bA)
      clear h0 bA hV
      have HA := Hid.mk hAA
      clear hAA hde hd HW8 hm9 hi hm hnm W1 W2 W3
      go_enter Try.func16, Try.ntmps16
      go_wp2_with (go_at_call 43; (try rw [hV5]); refine hN.mono ?_; clear hN; rintro e w1 ⟨rfl, rfl⟩)
      go_ret2
      refine ⟨?_, H0.out.2⟩
      rw [HA.out]
      rfl
  · skip
    have hA3 : A = ([], 32) := by rw [hAA, rqE_ne (fun e => hzid (congrArg Rq.id e))]; rfl
    clear hAA
    have hAA := hA3
    clear hA3
    have h0 := HC.new w #[.int .i64 m, .int .i64 id, .string c, .int .i64 k, .int .i64 r] 40
    have bA : Below w.heap.size w (w.alloc (.cells #[.int .i64 m, .int .i64 id, .string c, .int .i64 k, .int .i64 r] 40)) := (Below.refl _ w).alloc (Nat.le_refl _) _
    obtain ⟨V, hV⟩ : ∃ V, V = w.alloc (.cells #[.int .i64 m, .int .i64 id, .string c, .int .i64 k, .int .i64 r] 40) := ⟨_, rfl⟩
    have hV5 := hV.symm
    rw [← hV] at h0 bA
    have y0 : V.cell? ⟨w.heap.size, 0, none⟩ = some (.int .i64 m) := h0.cell rfl
    have y1 : V.cell? ⟨w.heap.size, 1, none⟩ = some (.int .i64 id) := h0.cell rfl
    have y2 : V.cell? ⟨w.heap.size, 2, none⟩ = some (.string c) := h0.cell rfl
    have y3 : V.cell? ⟨w.heap.size, 3, none⟩ = some (.int .i64 k) := h0.cell rfl
    have y4 : V.cell? ⟨w.heap.size, 4, none⟩ = some (.int .i64 r) := h0.cell rfl
    have hN := names_any i hi V
    rw [hnm, ← hm] at hN
    have H0 := Hid.mk (And.intro h0 bA)
    clear h0 bA hV
    have HA := Hid.mk hAA
    clear hAA hde hd HW8 hm9 hi hm hnm W1 W2 W3
    go_enter Try.func16, Try.ntmps16
    go_wp2_with (go_at_call 43; (try rw [hV5]); refine hN.mono ?_; clear hN; rintro e w1 ⟨rfl, rfl⟩)
    go_ret2
    refine ⟨?_, H0.out.2⟩
    rw [HA.out]
    rfl
/-- The document's Ask answers the same. -/
theorem rask_any (q : Rq) (hW : RqW q) (w : World) :
    Calls Try.prog 16 #[.agg (rqV q)] w fun e w' => e = .returned (.tuple #[.string ⟨(askA q).1.toArray⟩, .int .i64 (askA q).2]) ∧ Below w.heap.size w w' := by
  by_cases h : 1 ≤ q.op ∧ q.op ≤ 9
  · obtain ⟨i, hi, hop⟩ : ∃ i : Nat, i < 9 ∧ q.op = (i + 1 : Nat) := ⟨q.op.toNat - 1, by omega, by omega⟩
    have hc : i = 0 ∨ i = 1 ∨ i = 2 ∨ i = 3 ∨ i = 4 ∨ i = 5 ∨ i = 6 ∨ i = 7 ∨ i = 8 := by omega
    rcases hc with rfl | rfl | rfl | rfl | rfl | rfl | rfl | rfl | rfl
    · exact rask_A 0 hi rfl q hop hW w _ rfl rfl rfl rfl
    · exact rask_B 1 hi rfl q hop hW w _ rfl rfl rfl rfl
    · exact rask_B 2 hi rfl q hop hW w _ rfl rfl rfl rfl
    · exact rask_C 3 hi rfl q hop hW w _ rfl rfl rfl rfl
    · exact rask_D 4 hi rfl q hop hW w _ rfl rfl rfl rfl
    · exact rask_E 5 hi rfl q hop hW w _ rfl rfl rfl rfl
    · exact rask_E 6 hi rfl q hop hW w _ rfl rfl rfl rfl
    · exact rask_E 7 hi rfl q hop hW w _ rfl rfl rfl rfl
    · exact rask_E 8 hi rfl q hop hW w _ rfl rfl rfl rfl
  · have e : askA q = ([], 35) := by unfold askA; rw [if_neg h]
    rw [e]
    exact rask_kind q w h
end Go.Proofs.Ytjdknijjkjmafaa
