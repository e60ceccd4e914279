/-
  DERIVED. Decode.
-/
import Derived.Test.YtejpakejfikkmaaDoorCUn2
import Derived.Test.YtejpakejfikkmaaDoorSPm
set_option linter.unusedVariables false
set_option linter.unusedSimpArgs false
namespace Go.Proofs.YtejpakejfikkmaaDoor
open Go.RowKit Go.Proofs.SealMath
theorem pay_le (b : ByteArray) (a : Nat) : (⟨(psA b a).2.1.toArray⟩ : ByteArray).size ≤ 65536 := by
  show (psA b a).2.1.toArray.size ≤ 65536
  rw [List.size_toArray]
  by_cases h : (psA b a).2.2.2 = 0
  · obtain ⟨k, p, h1, h2, h3, h4, h5, h6⟩ := psA_yes b a h
    rw [h5]; exact h3
  · unfold psA at h ⊢
    split at h
    · split at h
      · rename_i h1 h2; rw [if_pos h1, if_pos h2]; simp
      · split at h
        · simp at h
        · rename_i h1 h2 h3; rw [if_pos h1, if_neg h2, if_neg h3]; simp
    · rename_i h1; rw [if_neg h1]; simp
theorem prA0 (b : ByteArray) : prA b 0 = psA b 0 := by unfold prA; rw [if_pos (by omega)]; rfl
theorem quad {α β γ δ : Type} (p : α × β × γ × δ) : p = (p.1, p.2.1, p.2.2.1, p.2.2.2) := rfl

/-- What a text says, whether it goes or not; what Decode tells. -/
def dcU (b : ByteArray) : Except Int Mf :=
  if (psA b 0).2.2.2 ≠ 0 then .error (psA b 0).2.2.2 else if (psA b 0).2.2.1 ≠ b.size then .error 37 else if (psA b 0).1 ≠ 3 then .error 35 else unP ⟨(psA b 0).2.1.toArray⟩
def mz : Mf := ⟨0, 0, 0, 0, 0, 0, []⟩
def dcM (b : ByteArray) : Except Int Mf := match dcU b with
  | .error e => .error e
  | .ok m => if chE m = 0 then .ok m else .error (chE m)
def dcV : Except Int Mf → Mf
  | .ok m => m
  | .error _ => mz
theorem getD_le {l : List Nat} {B : Nat} (h : ∀ x ∈ l, x ≤ B) (i : Nat) : l.getD i 0 ≤ B := by
  by_cases hi : i < l.length
  · rw [List.getD_eq_getElem?_getD, List.getElem?_eq_getElem hi]; exact h _ (List.getElem_mem hi)
  · rw [List.getD_eq_getElem?_getD, List.getElem?_eq_none (by omega)]; exact Nat.zero_le _
theorem rdRs_ok {p : ByteArray} : ∀ {n a : Nat} {rs : List Ru} {q : Nat}, rdRs p n a = .ok (rs, q) → rs.length = n ∧ ∀ r ∈ rs, I64 r.num ∧ I64 r.lo ∧ I64 r.hi ∧ I64 r.cnt
  | 0, a, rs, q, h => by simp only [rdRs] at h; cases h; exact ⟨rfl, fun r hr => by cases hr⟩
  | n + 1, a, rs, q, h => by
    simp only [rdRs] at h
    cases hr : rd p 1152921504606846976 4 a with
    | error e => rw [hr] at h; cases h
    | ok x =>
      obtain ⟨l, a'⟩ := x
      rw [hr] at h
      simp only at h
      cases hr2 : rdRs p n a' with
      | error e => rw [hr2] at h; cases h
      | ok y =>
        obtain ⟨rs', q'⟩ := y
        rw [hr2] at h
        simp only [Except.map] at h
        cases h
        obtain ⟨h1, h2⟩ := rdRs_ok hr2
        refine ⟨by simp [h1], fun r hr' => ?_⟩
        rcases List.mem_cons.1 hr' with rfl | hr'
        · have hb := (rd_len hr).2
          have a0 := getD_le hb 0
          have a1 := getD_le hb 1
          have a2 := getD_le hb 2
          have a3 := getD_le hb 3
          simp only [ruOf, I64]
          omega
        · exact h2 r hr'
theorem unP_ok {p : ByteArray} {m : Mf} (h : unP p = .ok m) : MfW m ∧ m.rs.length ≤ 24 := by
  unfold unP at h
  cases h1 : rd p 1152921504606846976 6 0 with
  | error e => rw [h1] at h; cases h
  | ok x =>
    obtain ⟨hd, a1⟩ := x
    rw [h1] at h
    simp only at h
    cases h2 : rd p 24 1 a1 with
    | error e => rw [h2] at h; cases h
    | ok y =>
      obtain ⟨c, a2⟩ := y
      rw [h2] at h
      simp only at h
      cases h3 : rdRs p (c.getD 0 0) a2 with
      | error e => rw [h3] at h; cases h
      | ok z =>
        obtain ⟨rs, a3⟩ := z
        rw [h3] at h
        simp only at h
        split at h
        · injection h with h
          subst h
          have hb := (rd_len h1).2
          have a0 := getD_le hb 0
          have a1 := getD_le hb 1
          have a2 := getD_le hb 2
          have a3 := getD_le hb 3
          have a4 := getD_le hb 4
          have a5 := getD_le hb 5
          have hc := getD_le (rd_len h2).2 0
          obtain ⟨g1, g2⟩ := rdRs_ok h3
          refine ⟨⟨?_, ?_, ?_, ?_, ?_, ?_, g2⟩, by simp only [mfOf]; omega⟩ <;> simp only [mfOf, I64] <;> omega
        · cases h
/-- What unframe leaves. -/
def UfR (w : World) (X : Except Int Mf) (e : Ending) (w' : World) : Prop :=
  ∃ (m : Mf) (la : Option Addr) (c : Nat) (er : Int), e = .returned (.tuple #[.agg (mfC m la c).toArray, .int .i64 er]) ∧ er = unE X ∧ Below w.heap.size w w' ∧
    (∀ m', X = .ok m' → m = m' ∧ w'.ownsRow 0 36 4 (.slice la m.rs.length c) m.rs.length (m.rs.flatMap ruC) ∧ ∀ k, (Value.slice la m.rs.length c).ownBlock = some k → w.heap.size ≤ k)
set_option maxHeartbeats 8000000 in
set_option maxRecDepth 100000 in
theorem unframe_any (b : ByteArray) (w : World) (ht : Tab w) (hg : 0 < w.heap.size) (hb : b.size < 4611686018427387904) :
    Calls Tryd.prog 10 #[.string b] w (UfR w (dcU b)) := by
  obtain ⟨wa, hwa⟩ : ∃ wa, wa = w.alloc (.cells #[.int .i64 0, .int .i64 0, .int .i64 0, .int .i64 0, .int .i64 0, .int .i64 0, .slice none 0 0] 26) := ⟨_, rfl⟩
  have ba : Below w.heap.size w wa := by rw [hwa]; exact (Below.refl _ w).alloc (Nat.le_refl _) _
  have sza : wa.heap.size = w.heap.size + 1 := by rw [hwa]; simp
  have ZA : Zr wa w.heap.size := by rw [hwa]; exact heap_alloc_last w _
  have hwa' : w.alloc (.cells #[.int .i64 0, .int .i64 0, .int .i64 0, .int .i64 0, .int .i64 0, .int .i64 0, .slice none 0 0] 26) = wa := hwa.symm
  have c1 := parse_any b 0 wa (ht.below ba hg) (by omega) hb
  rw [prA0] at c1
  have hpl := pay_le b 0
  obtain ⟨U, hU⟩ : ∃ U, U = dcU b := ⟨_, rfl⟩
  rw [← hU]
  unfold dcU at hU
  obtain ⟨K, P, M, E, hS⟩ : ∃ K P M E, psA b 0 = (K, P, M, E) := ⟨_, _, _, _, rfl⟩
  rw [hS] at c1 hpl hU
  simp only at c1 hpl hU
  have HZ := Hid.mk ZA
  have HU := Hid.mk hU
  clear hwa ZA hS hU
  by_cases hE : E ≠ 0
  · have hU := HU.out
    rw [if_pos hE] at hU
    have hE' := ne_b hE
    subst hU
    clear HU
    go_enter Tryd.func10, Tryd.ntmps10
    go_wp2_with (go_at_call 18; refine c1.mono ?_; rintro e w4 ⟨rfl, b1⟩; clear c1; have Z4 : Zr w4 w.heap.size := (b1.block _ (by omega)).trans HZ.out; obtain ⟨c0, c1, c2, c3, c4, c5, c6, cf⟩ := zr_cells Z4; have b4 := chain ba b1 (Nat.le_refl _))
    obtain ⟨W5, hW5, st5, o0, o1, o2, o3, o4, o5, o6⟩ := fin7 Z4 (.int .i64 0) (.int .i64 0) (.int .i64 0) (.int .i64 0) (.int .i64 0) (.int .i64 0) (.slice none 0 0)
    unfold set7 at hW5
    rw [hW5]
    refine bodyPost_ret (v := .tuple #[.agg #[.int .i64 0, .int .i64 0, .int .i64 0, .int .i64 0, .int .i64 0, .int .i64 0, .slice none 0 0], .int .i64 E]) (by simp [results, Tryd.results10, go_sem, o0, o1, o2, o3, o4, o5, o6]; try rfl) rfl ?_
    exact ⟨mz, none, 0, E, rfl, rfl, b4.trans (st5.toBelow (B := w.heap.size) (fun k hk h => by (have h' : k = w.heap.size := h; omega)) b4.size), fun m' h => by cases h⟩
  · have hE0 : E = 0 := Classical.byContradiction hE
    subst hE0
    by_cases hM : M ≠ b.size
    · have hU := HU.out
      rw [if_neg hE, if_pos hM] at hU
      have hM' : ((M : Int) != (b.size : Int)) = true := by (have : (M : Int) ≠ (b.size : Int) := by omega); simpa [bne_iff_ne] using this
      subst hU
      clear HU hE
      go_enter Tryd.func10, Tryd.ntmps10
      go_wp2_with (go_at_call 18; refine c1.mono ?_; rintro e w4 ⟨rfl, b1⟩; clear c1; have Z4 : Zr w4 w.heap.size := (b1.block _ (by omega)).trans HZ.out; obtain ⟨c0, c1, c2, c3, c4, c5, c6, cf⟩ := zr_cells Z4; have b4 := chain ba b1 (Nat.le_refl _))
      obtain ⟨W5, hW5, st5, o0, o1, o2, o3, o4, o5, o6⟩ := fin7 Z4 (.int .i64 0) (.int .i64 0) (.int .i64 0) (.int .i64 0) (.int .i64 0) (.int .i64 0) (.slice none 0 0)
      unfold set7 at hW5
      rw [hW5]
      refine bodyPost_ret (v := .tuple #[.agg #[.int .i64 0, .int .i64 0, .int .i64 0, .int .i64 0, .int .i64 0, .int .i64 0, .slice none 0 0], .int .i64 37]) (by simp [results, Tryd.results10, go_sem, o0, o1, o2, o3, o4, o5, o6]; try rfl) rfl ?_
      exact ⟨mz, none, 0, 37, rfl, rfl, b4.trans (st5.toBelow (B := w.heap.size) (fun k hk h => by (have h' : k = w.heap.size := h; omega)) b4.size), fun m' h => by cases h⟩
    · have hMs : M = b.size := Classical.byContradiction hM
      subst hMs
      by_cases hK : K ≠ 3
      · have hU := HU.out
        rw [if_neg hE, if_neg hM, if_pos hK] at hU
        have hK' : ((K : Int) != 3) = true := by (have : (K : Int) ≠ 3 := by omega); simpa [bne_iff_ne] using this
        subst hU
        clear HU hE hM
        go_enter Tryd.func10, Tryd.ntmps10
        go_wp2_with (go_at_call 18; refine c1.mono ?_; rintro e w4 ⟨rfl, b1⟩; clear c1; have Z4 : Zr w4 w.heap.size := (b1.block _ (by omega)).trans HZ.out; obtain ⟨c0, c1, c2, c3, c4, c5, c6, cf⟩ := zr_cells Z4; have b4 := chain ba b1 (Nat.le_refl _))
        obtain ⟨W5, hW5, st5, o0, o1, o2, o3, o4, o5, o6⟩ := fin7 Z4 (.int .i64 0) (.int .i64 0) (.int .i64 0) (.int .i64 0) (.int .i64 0) (.int .i64 0) (.slice none 0 0)
        unfold set7 at hW5
        rw [hW5]
        refine bodyPost_ret (v := .tuple #[.agg #[.int .i64 0, .int .i64 0, .int .i64 0, .int .i64 0, .int .i64 0, .int .i64 0, .slice none 0 0], .int .i64 35]) (by simp [results, Tryd.results10, go_sem, o0, o1, o2, o3, o4, o5, o6]; try rfl) rfl ?_
        exact ⟨mz, none, 0, 35, rfl, rfl, b4.trans (st5.toBelow (B := w.heap.size) (fun k hk h => by (have h' : k = w.heap.size := h; omega)) b4.size), fun m' h => by cases h⟩
      · have hK3 : K = 3 := Classical.byContradiction hK
        subst hK3
        have hU := HU.out
        rw [if_neg hE, if_neg hM, if_neg hK] at hU
        have HU2 := Hid.mk hU
        have cu := fun W => unpack_any ⟨P.toArray⟩ W (by omega)
        clear HU hE hM hK hU
        go_enter Tryd.func10, Tryd.ntmps10
        go_wp2_with first
          | (go_at_call 18; refine c1.mono ?_; rintro e w3 ⟨rfl, b1⟩; clear c1; have Z3 : Zr w3 w.heap.size := (b1.block _ (by omega)).trans HZ.out; have b3 := chain ba b1 (Nat.le_refl _))
          | (go_at_call 19; refine (cu w3).mono ?_; rintro e w4 ⟨m, la, c, er, rfl, her, b4', hok⟩; have HEr := Hid.mk her; clear cu her; have Z4 : Zr w4 w.heap.size := (b4'.block _ (Array.getElem?_eq_some_iff.1 Z3).1).trans Z3; obtain ⟨c0, c1, c2, c3, c4, c5, c6, cf⟩ := zr_cells Z4; have b4 := chain b3 b4' (Nat.le_refl _); simp only [mfC])
        obtain ⟨W5, hW5, st5, o0, o1, o2, o3, o4, o5, o6⟩ := fin7 Z4 (.int .i64 m.w) (.int .i64 m.ch) (.int .i64 m.md) (.int .i64 m.seq) (.int .i64 m.nx) (.int .i64 m.jn) (.slice la m.rs.length c)
        unfold set7 at hW5
        rw [hW5]
        refine bodyPost_ret (v := .tuple #[.agg #[.int .i64 m.w, .int .i64 m.ch, .int .i64 m.md, .int .i64 m.seq, .int .i64 m.nx, .int .i64 m.jn, .slice la m.rs.length c], .int .i64 er]) (by simp [results, Tryd.results10, go_sem, o0, o1, o2, o3, o4, o5, o6]; try rfl) rfl ?_
        refine ⟨m, la, c, er, rfl, by rw [HEr.out, HU2.out], b4.trans (st5.toBelow (B := w.heap.size) (fun k hk h => by (have h' : k = w.heap.size := h; omega)) b4.size), fun m' h => ?_⟩
        rw [HU2.out] at h
        obtain ⟨h1, h2, h3⟩ := hok m' h
        have s3 := b3.size
        have s1 := b1.size
        refine ⟨h1, row_kept h2 st5 (fun k hk h => by (have h' : k = w.heap.size := h; have := h3 k hk; omega)), fun k hk => by have := h3 k hk; omega⟩
/-- What Decode leaves. -/
def DeR (w : World) (X : Except Int Mf) (e : Ending) (w' : World) : Prop :=
  ∃ (la : Option Addr) (c : Nat), e = .returned (.tuple #[.agg (mfC (dcV X) la c).toArray, .int .i64 (unE X)]) ∧ w'.ownsRow 0 36 4 (.slice la (dcV X).rs.length c) (dcV X).rs.length ((dcV X).rs.flatMap ruC) ∧ (∀ k, (Value.slice la (dcV X).rs.length c).ownBlock = some k → w.heap.size ≤ k) ∧ Below w.heap.size w w'
theorem own_lat {w : World} {la : Option Addr} {c : Nat} {l : List Ru} (h : w.ownsRow 0 36 4 (.slice la l.length c) l.length (l.flatMap ruC)) : LAt w la l ∧ l.length ≤ c := by
  rcases h.2 with ⟨h0, hz⟩ | ⟨g, cap, cur, hv, hbg, hg, hnc, hcm, hcs, htake⟩
  · have e : l = [] := List.eq_nil_of_length_eq_zero hz
    subst e
    exact ⟨⟨fun h => absurd rfl h⟩, Nat.zero_le _⟩
  · cases hv
    have hR : Rw w g c l := h
    exact ⟨⟨fun _ => ⟨g, 0, rfl, hR.row⟩⟩, hnc⟩
theorem dcU_err {b : ByteArray} {e : Int} (h : dcU b = .error e) : e ≠ 0 := by
  unfold dcU at h
  split at h
  · next he => cases h; exact he
  · split at h
    · cases h; decide
    · split at h
      · cases h; decide
      · unfold unP at h
        cases h1 : rd (⟨(psA b 0).2.1.toArray⟩ : ByteArray) 1152921504606846976 6 0 with
        | error e => rw [h1] at h; cases h; exact rd_err h1
        | ok x =>
          obtain ⟨hd, a1⟩ := x
          rw [h1] at h
          simp only at h
          cases h2 : rd (⟨(psA b 0).2.1.toArray⟩ : ByteArray) 24 1 a1 with
          | error e => rw [h2] at h; cases h; exact rd_err h2
          | ok y =>
            obtain ⟨c, a2⟩ := y
            rw [h2] at h
            simp only at h
            cases h3 : rdRs (⟨(psA b 0).2.1.toArray⟩ : ByteArray) (c.getD 0 0) a2 with
            | error e => rw [h3] at h; cases h; exact rdRs_err h3
            | ok z =>
              obtain ⟨rs, a3⟩ := z
              rw [h3] at h
              simp only at h
              split at h
              · cases h
              · cases h; decide
theorem dcU_ok {b : ByteArray} {m : Mf} (h : dcU b = .ok m) : MfW m ∧ m.rs.length ≤ 24 := by
  unfold dcU at h
  split at h
  · cases h
  · split at h
    · cases h
    · split at h
      · cases h
      · exact unP_ok h
set_option maxHeartbeats 8000000 in
set_option maxRecDepth 100000 in
theorem decode_any (b : ByteArray) (w : World) (ht : Tab w) (hg : 0 < w.heap.size) (hb : b.size < 4611686018427387904) :
    Calls Tryd.prog 5 #[.string b] w (DeR w (dcM b)) := by
  obtain ⟨wa, hwa⟩ : ∃ wa, wa = w.alloc (.cells #[.int .i64 0, .int .i64 0, .int .i64 0, .int .i64 0, .int .i64 0, .int .i64 0, .slice none 0 0] 26) := ⟨_, rfl⟩
  have ba : Below w.heap.size w wa := by rw [hwa]; exact (Below.refl _ w).alloc (Nat.le_refl _) _
  have sza : wa.heap.size = w.heap.size + 1 := by rw [hwa]; simp
  have ZA : Zr wa w.heap.size := by rw [hwa]; exact heap_alloc_last w _
  have hwa' : w.alloc (.cells #[.int .i64 0, .int .i64 0, .int .i64 0, .int .i64 0, .int .i64 0, .int .i64 0, .slice none 0 0] 26) = wa := hwa.symm
  have c1 := unframe_any b wa (ht.below ba hg) (by omega) hb
  have HZ := Hid.mk ZA
  obtain ⟨X, hX⟩ : ∃ X, X = dcM b := ⟨_, rfl⟩
  rw [← hX]
  unfold dcM at hX
  clear hwa ZA
  cases hU : dcU b with
  | error eu =>
    rw [hU] at c1 hX
    simp only at hX
    have he := dcU_err hU
    have heb := ne_b he
    have hez : (eu == 0) = false := by simpa using he
    subst hX
    clear hU he
    go_enter Tryd.func5, Tryd.ntmps5
    go_wp2_with (go_at_call 10; refine c1.mono ?_; rintro e w3 ⟨m, la, c, er, rfl, her, b3, -⟩; clear c1; have her' : er = eu := her; subst her'; clear her; obtain ⟨w4, hw4⟩ : ∃ w4, w4 = w3.alloc (.cells (mfC m la c).toArray 26) := ⟨_, rfl⟩; have hw4' : w3.alloc (.cells (mfC m la c).toArray 26) = w4 := hw4.symm; have b4' : Below w3.heap.size w3 w4 := (by rw [hw4]; exact (Below.refl _ w3).alloc (Nat.le_refl _) _); have b34 := chain b3 b4' (Nat.le_refl _); have Z4 : Zr w4 w.heap.size := (b34.block _ (by omega)).trans HZ.out; obtain ⟨c0, c1, c2, c3, c4, c5, c6, cf⟩ := zr_cells Z4; have b4 := chain ba b34 (Nat.le_refl _); clear hw4; simp only [mfC] at hw4' ⊢)
    obtain ⟨W5, hW5, st5, o0, o1, o2, o3, o4, o5, o6⟩ := fin7 Z4 (.int .i64 0) (.int .i64 0) (.int .i64 0) (.int .i64 0) (.int .i64 0) (.int .i64 0) (.slice none 0 0)
    unfold set7 at hW5
    rw [hW5]
    refine bodyPost_ret (v := .tuple #[.agg #[.int .i64 0, .int .i64 0, .int .i64 0, .int .i64 0, .int .i64 0, .int .i64 0, .slice none 0 0], .int .i64 er]) (by simp [results, Tryd.results5, go_sem, o0, o1, o2, o3, o4, o5, o6]; try rfl) rfl ?_
    exact ⟨none, 0, rfl, World.ownsRow_nil _ _ _ _, (fun k hk => by cases hk), b4.trans (st5.toBelow (B := w.heap.size) (fun k hk h => by (have h' : k = w.heap.size := h; omega)) b4.size)⟩
  | ok mu =>
    rw [hU] at c1 hX
    simp only at hX
    obtain ⟨hmw, hml⟩ := dcU_ok hU
    obtain ⟨E, hch⟩ : ∃ E, chE mu = E := ⟨_, rfl⟩
    rw [hch] at hX
    by_cases hE : E = 0
    · rw [if_pos hE] at hX
      subst hE hX
      clear hU
      go_enter Tryd.func5, Tryd.ntmps5
      go_wp2_with first
        | (go_at_call 10; refine c1.mono ?_; rintro e w3 ⟨m, la, c, er, rfl, her, b3, hok⟩; clear c1; have her' : er = 0 := her; subst her'; clear her; obtain ⟨hm1, ow3, own3⟩ := hok _ rfl; subst hm1; obtain ⟨w4, hw4⟩ : ∃ w4, w4 = w3.alloc (.cells (mfC m la c).toArray 26) := ⟨_, rfl⟩; have hw4' : w3.alloc (.cells (mfC m la c).toArray 26) = w4 := hw4.symm; have b4' : Below w3.heap.size w3 w4 := (by rw [hw4]; exact (Below.refl _ w3).alloc (Nat.le_refl _) _); have S4 : SAt w4 w3.heap.size (mfC m la c) := (by rw [hw4]; exact SAt.new w3 _ _); have b34 := chain b3 b4' (Nat.le_refl _); have Z4 : Zr w4 w.heap.size := (b34.block _ (by omega)).trans HZ.out; have b4 := chain ba b34 (Nat.le_refl _); have ow4 := row_kept (F := fun _ => False) ow3 (.below b4') (fun _ _ h => h); have k0 := S4 0 _ rfl; have k1 := S4 1 _ rfl; have k2 := S4 2 _ rfl; have k3 := S4 3 _ rfl; have k4 := S4 4 _ rfl; have k5 := S4 5 _ rfl; have k6 := S4 6 _ rfl; have cc := check_any m la c w4 (own_lat ow4).1 hmw (by omega); rw [hch] at cc; clear hw4 hok; simp only [mfC] at hw4' cc ⊢)
        | (go_at_call 11; refine cc.mono ?_; rintro e w5 ⟨rfl, b5'⟩; clear cc; have S5 := S4.lat b5'; have j0 := S5 0 _ rfl; have j1 := S5 1 _ rfl; have j2 := S5 2 _ rfl; have j3 := S5 3 _ rfl; have j4 := S5 4 _ rfl; have j5 := S5 5 _ rfl; have j6 := S5 6 _ rfl; have Z5 : Zr w5 w.heap.size := (b5'.block _ (Array.getElem?_eq_some_iff.1 Z4).1).trans Z4; obtain ⟨c0, c1, c2, c3, c4, c5, c6, cf⟩ := zr_cells Z5; have b5 := chain b4 b5' (Nat.le_refl _); have ow5 := row_kept (F := fun _ => False) ow4 (.below b5') (fun _ _ h => h))
      obtain ⟨W6, hW6, st6, o0, o1, o2, o3, o4, o5, o6⟩ := fin7 Z5 (.int .i64 m.w) (.int .i64 m.ch) (.int .i64 m.md) (.int .i64 m.seq) (.int .i64 m.nx) (.int .i64 m.jn) (.slice la m.rs.length c)
      unfold set7 at hW6
      rw [hW6]
      refine bodyPost_ret (v := .tuple #[.agg #[.int .i64 m.w, .int .i64 m.ch, .int .i64 m.md, .int .i64 m.seq, .int .i64 m.nx, .int .i64 m.jn, .slice la m.rs.length c], .int .i64 0]) (by simp [results, Tryd.results5, go_sem, o0, o1, o2, o3, o4, o5, o6]; try rfl) rfl ?_
      refine ⟨la, c, rfl, row_kept ow5 st6 (fun k hk h => by (have h' : k = w.heap.size := h; have := own3 k hk; omega)), fun k hk => by (have := own3 k hk; omega), b5.trans (st6.toBelow (B := w.heap.size) (fun k hk h => by (have h' : k = w.heap.size := h; omega)) b5.size)⟩
    · rw [if_neg hE] at hX
      have hEb := ne_b hE
      subst hX
      clear hU
      go_enter Tryd.func5, Tryd.ntmps5
      go_wp2_with first
        | (go_at_call 10; refine c1.mono ?_; rintro e w3 ⟨m, la, c, er, rfl, her, b3, hok⟩; clear c1; have her' : er = 0 := her; subst her'; clear her; obtain ⟨hm1, ow3, own3⟩ := hok _ rfl; subst hm1; obtain ⟨w4, hw4⟩ : ∃ w4, w4 = w3.alloc (.cells (mfC m la c).toArray 26) := ⟨_, rfl⟩; have hw4' : w3.alloc (.cells (mfC m la c).toArray 26) = w4 := hw4.symm; have b4' : Below w3.heap.size w3 w4 := (by rw [hw4]; exact (Below.refl _ w3).alloc (Nat.le_refl _) _); have S4 : SAt w4 w3.heap.size (mfC m la c) := (by rw [hw4]; exact SAt.new w3 _ _); have b34 := chain b3 b4' (Nat.le_refl _); have Z4 : Zr w4 w.heap.size := (b34.block _ (by omega)).trans HZ.out; have b4 := chain ba b34 (Nat.le_refl _); have ow4 := row_kept (F := fun _ => False) ow3 (.below b4') (fun _ _ h => h); have k0 := S4 0 _ rfl; have k1 := S4 1 _ rfl; have k2 := S4 2 _ rfl; have k3 := S4 3 _ rfl; have k4 := S4 4 _ rfl; have k5 := S4 5 _ rfl; have k6 := S4 6 _ rfl; have cc := check_any m la c w4 (own_lat ow4).1 hmw (by omega); rw [hch] at cc; clear hw4 hok; simp only [mfC] at hw4' cc ⊢)
        | (go_at_call 11; refine cc.mono ?_; rintro e w5 ⟨rfl, b5'⟩; clear cc; have S5 := S4.lat b5'; have j0 := S5 0 _ rfl; have j1 := S5 1 _ rfl; have j2 := S5 2 _ rfl; have j3 := S5 3 _ rfl; have j4 := S5 4 _ rfl; have j5 := S5 5 _ rfl; have j6 := S5 6 _ rfl; have Z5 : Zr w5 w.heap.size := (b5'.block _ (Array.getElem?_eq_some_iff.1 Z4).1).trans Z4; obtain ⟨c0, c1, c2, c3, c4, c5, c6, cf⟩ := zr_cells Z5; have b5 := chain b4 b5' (Nat.le_refl _); have ow5 := row_kept (F := fun _ => False) ow4 (.below b5') (fun _ _ h => h))
      obtain ⟨W6, hW6, st6, o0, o1, o2, o3, o4, o5, o6⟩ := fin7 Z5 (.int .i64 0) (.int .i64 0) (.int .i64 0) (.int .i64 0) (.int .i64 0) (.int .i64 0) (.slice none 0 0)
      unfold set7 at hW6
      rw [hW6]
      refine bodyPost_ret (v := .tuple #[.agg #[.int .i64 0, .int .i64 0, .int .i64 0, .int .i64 0, .int .i64 0, .int .i64 0, .slice none 0 0], .int .i64 E]) (by simp [results, Tryd.results5, go_sem, o0, o1, o2, o3, o4, o5, o6]; try rfl) rfl ?_
      exact ⟨none, 0, rfl, World.ownsRow_nil _ _ _ _, (fun k hk => by cases hk), b5.trans (st6.toBelow (B := w.heap.size) (fun k hk h => by (have h' : k = w.heap.size := h; omega)) b5.size)⟩
end Go.Proofs.YtejpakejfikkmaaDoor
